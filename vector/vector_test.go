package vector

import (
	"math"
	"math/big"
	"slices"
	"testing"

	"lagoon/api"
)

const great = 1 << 60

// What follows are the chapter's Words, written down plainly, to hold the package against.

func plainAt(v api.Vector, node int) int64 {
	if node < 0 || node > 63 || node > len(v)-1 {
		return 0
	}
	if v[node] < 0 || v[node] > 1152921504606846976 {
		return 0
	}
	return v[node]
}

// plainList gives the vector with the number that pick gives for each node, in normal form.
func plainList(pick func(node int) int64) api.Vector {
	v := api.Vector{}
	for node := range 64 {
		v = append(v, pick(node))
	}
	for len(v) > 0 && v[len(v)-1] == 0 {
		v = v[:len(v)-1]
	}
	return v
}

func plainNorm(v api.Vector) api.Vector {
	return plainList(func(node int) int64 { return plainAt(v, node) })
}

func plainWith(v api.Vector, node int, n int64) api.Vector {
	if node < 0 || node > 63 || n < 0 || n > 1152921504606846976 {
		return plainNorm(v)
	}
	return plainList(func(i int) int64 {
		if i == node {
			return n
		}
		return plainAt(v, i)
	})
}

func plainMax(vs []api.Vector) api.Vector {
	return plainList(func(node int) int64 {
		numbers := []int64{0}
		for _, v := range vs {
			numbers = append(numbers, plainAt(v, node))
		}
		return slices.Max(numbers)
	})
}

func plainMin(a, b api.Vector) api.Vector {
	return plainList(func(node int) int64 {
		return slices.Min([]int64{plainAt(a, node), plainAt(b, node)})
	})
}

func plainAhead(a, b api.Vector) []int {
	nodes := []int{}
	for node := range 64 {
		if plainAt(a, node) > plainAt(b, node) {
			nodes = append(nodes, node)
		}
	}
	return nodes
}

func plainSum(v api.Vector) int64 {
	sum := new(big.Int)
	for _, n := range plainNorm(v) {
		sum.Add(sum, big.NewInt(n))
	}
	if most := big.NewInt(4611686018427387904); sum.Cmp(most) > 0 {
		return most.Int64()
	}
	return sum.Int64()
}

// many gives a vector of n times the same number.
func many(number int64, n int) api.Vector {
	return slices.Repeat(api.Vector{number}, n)
}

// join gives all the lists' numbers, one list behind the other.
func join(lists ...api.Vector) api.Vector {
	return slices.Concat(lists...)
}

// roomy gives v with spare room behind it, where numbers stand that nobody may look at or write over.
func roomy(v api.Vector) api.Vector {
	return join(v, many(77, 70))[:len(v)]
}

// spoil writes over v, spare room too.
func spoil(v api.Vector) {
	v = v[:cap(v)]
	for i := range v {
		v[i] = ^v[i]
	}
}

// noisy gives a vector of n numbers that hang on seed alone: small ones, zeros, and some at the edges of the range.
func noisy(seed uint64, n int) api.Vector {
	edges := []int64{0, 0, 0, great, great - 1, great + 1, -1, -3, math.MaxInt64, math.MinInt64}
	v := make(api.Vector, n)
	for i := range v {
		seed = seed*6364136223846793005 + 1442695040888963407
		v[i] = int64(seed >> 62)
		if pick := seed >> 40 % 40; pick < uint64(len(edges)) {
			v[i] = edges[pick]
		}
	}
	return v
}

// samples are vectors at all the edges that the chapter names, and some between.
func samples() []api.Vector {
	vs := []api.Vector{
		nil, {}, {0}, {0, 0, 0}, many(0, 64), many(0, 65), many(0, 1000),
		{1}, {2}, {0, 1}, {1, 0}, {0, 0, 7}, {0, 7, 0, 0}, {3, 0, 5}, {3, 0, 5, 0}, {3, 0, 5, 0, 0, 0}, {1, 2, 5}, {3, 2, 5}, {1, 0, 5},
		{great}, {great - 1}, {great + 1}, {-1}, {math.MaxInt64}, {math.MinInt64},
		{1, great, 3}, {1, great + 1, 3}, {1, -1, 3}, {1, 0, 3}, {1, math.MinInt64, 3},
		{1, 2, great}, {1, 2, great + 1}, {1, 2, -1}, {1, 2}, {1, 0, -1}, {1, -1, great + 1, 0},
		many(1, 63), many(1, 64), many(1, 65), many(1, 1000), many(2, 64), many(2, 65), many(-1, 64), many(-1, 65), many(great+1, 1000),
		join(many(1, 64), api.Vector{5}), join(many(1, 64), api.Vector{0, 6}), join(many(1, 63), api.Vector{2}), join(many(1, 63), api.Vector{0, 9}), join(many(1, 63), api.Vector{-1, 9}),
		join(many(0, 63), api.Vector{4}), join(many(0, 64), api.Vector{4}), join(many(0, 63), api.Vector{great + 1, 4}),
		many(great, 3), many(great, 4), many(great, 5), many(great, 64), many(great, 65),
	}
	for seed := range uint64(30) {
		vs = append(vs, noisy(seed, int(seed)*3))
	}
	return vs
}

func same(t *testing.T, what string, got, want api.Vector) {
	t.Helper()
	if !slices.Equal(got, want) {
		t.Errorf("%s: %v, not %v", what, got, want)
	}
}

// P4.1
func TestNorm(t *testing.T) {
	for _, x := range []struct{ v, want api.Vector }{
		{nil, nil}, {api.Vector{}, nil}, {api.Vector{0}, nil}, {many(0, 64), nil}, {many(0, 65), nil}, {many(0, 1000), nil},
		{api.Vector{3, 0, 5}, api.Vector{3, 0, 5}},
		{api.Vector{3, 0, 5, 0, 0}, api.Vector{3, 0, 5}},
		{api.Vector{0, 0, 7}, api.Vector{0, 0, 7}},
		{api.Vector{great}, api.Vector{great}},
		{api.Vector{great + 1}, nil}, {api.Vector{-1}, nil}, {api.Vector{math.MinInt64}, nil}, {api.Vector{math.MaxInt64}, nil},
		{api.Vector{1, great + 1, 3}, api.Vector{1, 0, 3}},
		{api.Vector{1, -1, 3}, api.Vector{1, 0, 3}},
		{api.Vector{1, 2, great + 1}, api.Vector{1, 2}},
		{api.Vector{1, 2, -1}, api.Vector{1, 2}},
		{api.Vector{1, 0, -1, 0, great + 1}, api.Vector{1}},
		{many(1, 64), many(1, 64)}, {many(1, 65), many(1, 64)}, {many(1, 1000), many(1, 64)},
		{join(many(0, 63), api.Vector{4}), join(many(0, 63), api.Vector{4})},
		{join(many(0, 64), api.Vector{4}), nil},
		{join(api.Vector{8}, many(0, 63), api.Vector{4}), api.Vector{8}},
		{join(many(1, 63), api.Vector{-1, 4}), many(1, 63)},
	} {
		same(t, "Norm", Norm(x.v), x.want)
	}
	for _, v := range samples() {
		same(t, "Norm", Norm(v), plainNorm(v))
		same(t, "Norm of Norm", Norm(Norm(v)), plainNorm(v))
	}
}

// P4.1
func TestAt(t *testing.T) {
	all := make(api.Vector, 70)
	for i := range all {
		all[i] = int64(i + 1)
	}
	for _, x := range []struct {
		v    api.Vector
		node int
		want int64
	}{
		{nil, 0, 0}, {nil, -1, 0}, {nil, 63, 0},
		{all, -1, 0}, {all, 0, 1}, {all, 1, 2}, {all, 62, 63}, {all, 63, 64}, {all, 64, 0}, {all, 65, 0}, {all, 69, 0}, {all, 70, 0},
		{all, math.MinInt, 0}, {all, math.MaxInt, 0}, {all, 1 << 32, 0}, {all, -1 << 32, 0}, {all, 256, 0},
		{api.Vector{3, 0, 5}, 1, 0}, {api.Vector{3, 0, 5}, 2, 5}, {api.Vector{3, 0, 5}, 3, 0}, {api.Vector{3, 0, 5}, 63, 0},
		{api.Vector{great, great + 1, -1, math.MinInt64, math.MaxInt64}, 0, great},
		{api.Vector{great, great + 1, -1, math.MinInt64, math.MaxInt64}, 1, 0},
		{api.Vector{great, great + 1, -1, math.MinInt64, math.MaxInt64}, 2, 0},
		{api.Vector{great, great + 1, -1, math.MinInt64, math.MaxInt64}, 3, 0},
		{api.Vector{great, great + 1, -1, math.MinInt64, math.MaxInt64}, 4, 0},
	} {
		if got := At(x.v, x.node); got != x.want {
			t.Errorf("At(%v, %d): %d, not %d", x.v, x.node, got, x.want)
		}
	}
	for _, v := range samples() {
		for node := -2; node < 70; node++ {
			if got := At(roomy(v), node); got != plainAt(v, node) {
				t.Errorf("At(%v, %d): %d, not %d", v, node, got, plainAt(v, node))
			}
		}
	}
}

// P4.1
func TestWith(t *testing.T) {
	a := api.Vector{3, 0, 5, 0}
	for _, x := range []struct {
		v    api.Vector
		node int
		n    int64
		want api.Vector
	}{
		{a, 0, 7, api.Vector{7, 0, 5}}, {a, 1, 7, api.Vector{3, 7, 5}},
		{a, 0, 0, api.Vector{0, 0, 5}}, {a, 2, 0, api.Vector{3}}, {api.Vector{3}, 0, 0, nil}, {a, 9, 0, api.Vector{3, 0, 5}},
		{a, 4, 9, api.Vector{3, 0, 5, 0, 9}}, {a, 6, 9, api.Vector{3, 0, 5, 0, 0, 0, 9}},
		{a, 63, 9, join(a, many(0, 59), api.Vector{9})},
		{a, 64, 9, api.Vector{3, 0, 5}}, {a, 65, 9, api.Vector{3, 0, 5}}, {a, -1, 9, api.Vector{3, 0, 5}},
		{a, math.MinInt, 9, api.Vector{3, 0, 5}}, {a, math.MaxInt, 9, api.Vector{3, 0, 5}}, {a, 1 << 32, 9, api.Vector{3, 0, 5}},
		{a, 0, great, api.Vector{great, 0, 5}}, {a, 0, great + 1, api.Vector{3, 0, 5}}, {a, 0, -1, api.Vector{3, 0, 5}},
		{a, 2, -1, api.Vector{3, 0, 5}}, {a, 2, math.MinInt64, api.Vector{3, 0, 5}}, {a, 2, math.MaxInt64, api.Vector{3, 0, 5}},
		{nil, 0, 1, api.Vector{1}}, {nil, 2, 1, api.Vector{0, 0, 1}}, {nil, 0, 0, nil}, {nil, 63, 0, nil}, {nil, 64, 1, nil}, {nil, -1, 1, nil},
		{many(1, 65), 63, 2, join(many(1, 63), api.Vector{2})}, {many(1, 65), 64, 2, many(1, 64)}, {many(1, 65), 63, 0, many(1, 63)},
		{api.Vector{1, -1, great + 1}, 1, 4, api.Vector{1, 4}}, {api.Vector{1, -1, great + 1}, 2, 4, api.Vector{1, 0, 4}},
		{api.Vector{1, -1, great + 1}, 1, -1, api.Vector{1}},
	} {
		same(t, "With", With(x.v, x.node, x.n), x.want)
	}
	for _, v := range samples() {
		for node := -2; node < 70; node++ {
			for _, n := range []int64{0, 1, 9, great - 1, great, great + 1, -1, math.MinInt64, math.MaxInt64} {
				same(t, "With", With(v, node, n), plainWith(v, node, n))
			}
		}
	}
}

// P4.1
func TestMax(t *testing.T) {
	a, b := api.Vector{3, 0, 5, 0}, api.Vector{1, 2, 5}
	for _, x := range []struct {
		vs   []api.Vector
		want api.Vector
	}{
		{nil, nil}, {[]api.Vector{}, nil}, {[]api.Vector{nil}, nil}, {[]api.Vector{nil, {}, {0, 0}}, nil},
		{[]api.Vector{a}, api.Vector{3, 0, 5}}, {[]api.Vector{a, a}, api.Vector{3, 0, 5}},
		{[]api.Vector{a, b}, api.Vector{3, 2, 5}}, {[]api.Vector{b, a}, api.Vector{3, 2, 5}},
		{[]api.Vector{a, nil}, api.Vector{3, 0, 5}}, {[]api.Vector{nil, a}, api.Vector{3, 0, 5}},
		{[]api.Vector{{1}, {0, 2}, {0, 0, 3}, {2, 1}}, api.Vector{2, 2, 3}},
		{[]api.Vector{{5}, {4}, {3}, {2}, {1}}, api.Vector{5}}, {[]api.Vector{{1}, {2}, {3}, {4}, {5}}, api.Vector{5}},
		{[]api.Vector{{great + 1, 1}, {2, -1}}, api.Vector{2, 1}}, {[]api.Vector{{great, 1}, {2, -1}}, api.Vector{great, 1}},
		{[]api.Vector{{-1}, {math.MinInt64}}, nil},
		{[]api.Vector{many(1, 64), join(many(0, 64), api.Vector{7})}, many(1, 64)},
		{[]api.Vector{many(1, 65), many(2, 66)}, many(2, 64)},
	} {
		same(t, "Max", Max(x.vs...), x.want)
	}
	vs := samples()
	for i := range vs {
		same(t, "Max of many", Max(vs[:i]...), plainMax(vs[:i]))
		same(t, "Max of many", Max(vs[i:]...), plainMax(vs[i:]))
		same(t, "Max of one", Max(vs[i]), plainNorm(vs[i]))
		for _, b := range vs {
			same(t, "Max of two", Max(vs[i], b), plainMax([]api.Vector{vs[i], b}))
		}
	}
}

// P4.1
func TestMin(t *testing.T) {
	a, b := api.Vector{3, 0, 5, 0}, api.Vector{1, 2, 5}
	for _, x := range []struct{ a, b, want api.Vector }{
		{nil, nil, nil}, {a, nil, nil}, {nil, a, nil}, {a, many(0, 70), nil},
		{a, a, api.Vector{3, 0, 5}}, {a, b, api.Vector{1, 0, 5}}, {b, a, api.Vector{1, 0, 5}},
		{api.Vector{1, 2, 3}, api.Vector{4}, api.Vector{1}}, {api.Vector{4}, api.Vector{1, 2, 3}, api.Vector{1}},
		{api.Vector{1, 2}, api.Vector{4, 0, 7}, api.Vector{1}},
		{api.Vector{great, 1}, api.Vector{great, 2}, api.Vector{great, 1}},
		{api.Vector{great + 1, 1}, api.Vector{5, 2}, api.Vector{0, 1}}, {api.Vector{5, 2}, api.Vector{great + 1, 1}, api.Vector{0, 1}},
		{api.Vector{-1, 1}, api.Vector{5, 2}, api.Vector{0, 1}}, {api.Vector{5, 2}, api.Vector{5, -1}, api.Vector{5}},
		{many(3, 65), many(2, 66), many(2, 64)},
		{join(many(0, 64), api.Vector{7}), join(many(0, 64), api.Vector{9}), nil},
	} {
		same(t, "Min", Min(x.a, x.b), x.want)
	}
	for _, a := range samples() {
		same(t, "Min", Min(a, a), plainNorm(a))
		for _, b := range samples() {
			same(t, "Min", Min(a, b), plainMin(a, b))
		}
	}
}

// comparison is what the functions that hold two vectors against each other answer.
type comparison struct{ leq, geq, eq, apart bool }

func compare(a, b api.Vector) comparison {
	return comparison{Leq(a, b), Leq(b, a), Eq(a, b), Apart(a, b)}
}

func plainCompare(a, b api.Vector) comparison {
	above, below := len(plainAhead(a, b)) > 0, len(plainAhead(b, a)) > 0
	return comparison{leq: !above, geq: !below, eq: slices.Equal(plainNorm(a), plainNorm(b)), apart: above && below}
}

// P4.1
func TestComparisons(t *testing.T) {
	equal, less, more, apart := comparison{leq: true, geq: true, eq: true}, comparison{leq: true}, comparison{geq: true}, comparison{apart: true}
	a, b := api.Vector{3, 0, 5, 0}, api.Vector{1, 2, 5}
	for _, x := range []struct {
		a, b api.Vector
		want comparison
	}{
		{nil, nil, equal}, {nil, api.Vector{}, equal}, {nil, many(0, 3), equal}, {nil, many(0, 100), equal},
		{nil, api.Vector{1}, less}, {api.Vector{0, 0, 1}, nil, more},
		{a, a, equal}, {a, b, apart}, {b, a, apart}, {a, api.Vector{3, 0, 5}, equal}, {api.Vector{3, 0, 5}, join(a, many(0, 90)), equal},
		{api.Vector{1}, a, less}, {a, api.Vector{1}, more}, {api.Vector{4}, a, apart}, {a, api.Vector{3, 0, 6}, less}, {a, api.Vector{2, 0, 5}, more},
		{api.Vector{1, 2}, api.Vector{1, 2, 1}, less}, {api.Vector{1, 2, 1}, api.Vector{1, 2}, more}, {api.Vector{1, 2, 1}, api.Vector{1, 3}, apart},
		{api.Vector{1, -1, 3}, api.Vector{1, 0, 3}, equal}, {api.Vector{1, great + 1, 3}, api.Vector{1, 0, 3}, equal}, {api.Vector{1, -1, 3}, api.Vector{1, great + 1, 3, -7}, equal},
		{api.Vector{1, great, 3}, api.Vector{1, great + 1, 3}, more}, {api.Vector{great + 1}, api.Vector{1}, less}, {api.Vector{0}, api.Vector{-1}, equal}, {api.Vector{1}, api.Vector{1, great}, less},
		{many(1, 64), many(1, 65), equal}, {many(1, 65), join(many(1, 64), api.Vector{5}), equal}, {join(many(1, 64), api.Vector{4, 9}), join(many(1, 64), api.Vector{9, 4}), equal}, {nil, join(many(0, 64), api.Vector{5}), equal},
		{many(1, 64), many(1, 63), more}, {many(1, 63), many(1, 1000), less}, {many(1, 64), join(many(1, 63), api.Vector{2}), less}, {join(api.Vector{2}, many(1, 63)), join(many(1, 63), api.Vector{2}), apart},
		{many(great, 64), many(great, 65), equal}, {many(great+1, 64), nil, equal},
	} {
		if got := compare(x.a, x.b); got != x.want {
			t.Errorf("%v and %v: %+v, not %+v", x.a, x.b, got, x.want)
		}
	}
	for _, a := range samples() {
		if got := compare(a, a); got != equal {
			t.Errorf("%v and itself: %+v", a, got)
		}
		for _, b := range samples() {
			if got, want := compare(a, b), plainCompare(a, b); got != want {
				t.Errorf("%v and %v: %+v, not %+v", a, b, got, want)
			}
		}
	}
}

// P4.1
func TestSum(t *testing.T) {
	for _, x := range []struct {
		v    api.Vector
		want int64
	}{
		{nil, 0}, {many(0, 70), 0}, {api.Vector{3, 0, 5, 0}, 8}, {api.Vector{1, -1, great + 1, 3}, 4}, {api.Vector{math.MinInt64, math.MaxInt64}, 0},
		{many(1, 64), 64}, {many(1, 65), 64}, {many(1, 1000), 64}, {join(many(0, 64), api.Vector{5}), 0},
		{many(great, 1), 1 << 60}, {many(great, 3), 3 << 60}, {many(great, 4), 1 << 62}, {many(great, 5), 1 << 62}, {many(great, 8), 1 << 62},
		{many(great, 9), 1 << 62}, {many(great, 16), 1 << 62}, {many(great, 17), 1 << 62}, {many(great, 64), 1 << 62}, {many(great, 65), 1 << 62},
		{join(many(great, 3), api.Vector{great - 1}), 1<<62 - 1}, {join(many(great, 3), api.Vector{great - 1, 1}), 1 << 62},
		{join(many(great, 3), api.Vector{great - 1, 2}), 1 << 62}, {join(many(great, 4), api.Vector{1}), 1 << 62},
		{many(great+1, 64), 0}, {join(many(great, 3), many(great+1, 60)), 3 << 60},
	} {
		if got := Sum(x.v); got != x.want {
			t.Errorf("Sum(%v): %d, not %d", x.v, got, x.want)
		}
	}
	for _, v := range samples() {
		if got := Sum(v); got != plainSum(v) {
			t.Errorf("Sum(%v): %d, not %d", v, got, plainSum(v))
		}
	}
}

// P4.1
func TestAhead(t *testing.T) {
	all := make([]int, 64)
	for node := range all {
		all[node] = node
	}
	a, b := api.Vector{3, 0, 5, 0}, api.Vector{1, 2, 5}
	for _, x := range []struct {
		a, b api.Vector
		want []int
	}{
		{nil, nil, nil}, {a, a, nil}, {nil, a, nil}, {a, nil, []int{0, 2}}, {a, b, []int{0}}, {b, a, []int{1}},
		{api.Vector{1, 2, 3, 4}, api.Vector{0, 2, 2, 5}, []int{0, 2}}, {api.Vector{1, 2, 3}, api.Vector{1}, []int{1, 2}}, {api.Vector{1}, api.Vector{1, 2, 3}, nil},
		{api.Vector{3, 0, 5, 0, 0}, api.Vector{3, 0, 5}, nil}, {many(0, 70), nil, nil},
		{api.Vector{1, great + 1, great}, api.Vector{-1, 1, great - 1}, []int{0, 2}}, {api.Vector{-1, 0}, api.Vector{math.MinInt64, -5}, nil},
		{many(1, 64), nil, all}, {many(1, 65), nil, all}, {many(great, 1000), many(great-1, 1000), all}, {many(2, 64), many(1, 63), all},
		{nil, many(1, 64), nil}, {many(1, 64), many(1, 1000), nil},
		{join(many(1, 64), api.Vector{5}), many(1, 64), nil}, {join(many(0, 64), api.Vector{5}), nil, nil}, {join(many(0, 63), api.Vector{5, 5}), nil, []int{63}},
	} {
		if got := Ahead(x.a, x.b); !slices.Equal(got, x.want) {
			t.Errorf("Ahead(%v, %v): %v, not %v", x.a, x.b, got, x.want)
		}
	}
	for _, a := range samples() {
		for _, b := range samples() {
			if got, want := Ahead(a, b), plainAhead(a, b); !slices.Equal(got, want) {
				t.Errorf("Ahead(%v, %v): %v, not %v", a, b, got, want)
			}
		}
	}
}

// answering is a call that answers a vector made of two; one that takes just one vector leaves b alone.
type answering struct {
	name string
	call func(a, b api.Vector) api.Vector
}

func answerings() []answering {
	return []answering{
		{"Norm", func(a, b api.Vector) api.Vector { return Norm(a) }},
		{"With", func(a, b api.Vector) api.Vector { return With(a, 1, 6) }},
		{"With a node behind the end", func(a, b api.Vector) api.Vector { return With(a, len(a), 6) }},
		{"With no node", func(a, b api.Vector) api.Vector { return With(a, 64, 6) }},
		{"With no number", func(a, b api.Vector) api.Vector { return With(a, 0, -1) }},
		{"Max of one", func(a, b api.Vector) api.Vector { return Max(a) }},
		{"Max", func(a, b api.Vector) api.Vector { return Max(a, b) }},
		{"Min", func(a, b api.Vector) api.Vector { return Min(a, b) }},
	}
}

// P4.1, P0.3
func TestArgumentsStayAsTheyAre(t *testing.T) {
	calls := answerings()
	for _, x := range []struct {
		name string
		call func(a, b api.Vector)
	}{
		{"At", func(a, b api.Vector) { At(a, 0) }},
		{"Leq", func(a, b api.Vector) { Leq(a, b) }},
		{"Eq", func(a, b api.Vector) { Eq(a, b) }},
		{"Apart", func(a, b api.Vector) { Apart(a, b) }},
		{"Sum", func(a, b api.Vector) { Sum(a) }},
		{"Ahead", func(a, b api.Vector) { Ahead(a, b) }},
	} {
		calls = append(calls, answering{x.name, func(a, b api.Vector) api.Vector { x.call(a, b); return nil }})
	}
	vs := samples()
	for i := range vs {
		other := vs[(i+len(vs)/2)%len(vs)]
		for _, x := range calls {
			a, b := roomy(vs[i]), roomy(other)
			x.call(a, b)
			same(t, x.name+" changed the first", a[:cap(a)], roomy(vs[i])[:cap(a)])
			same(t, x.name+" changed the second", b[:cap(b)], roomy(other)[:cap(b)])
		}
	}
}

// P4.1, P0.3
func TestAnswersAreNewMemory(t *testing.T) {
	vs := samples()
	for i := range vs {
		other := vs[(i+len(vs)/2)%len(vs)]
		for _, x := range answerings() {
			a, b := roomy(vs[i]), roomy(other)
			want := slices.Clone(x.call(a, b))
			first, second := x.call(a, b), x.call(a, b)
			spoil(first)
			same(t, x.name+" kept what it answered", second, want)
			same(t, x.name+" kept what it answered", x.call(a, b), want)
			same(t, x.name+" answered the first", a[:cap(a)], roomy(vs[i])[:cap(a)])
			same(t, x.name+" answered the second", b[:cap(b)], roomy(other)[:cap(b)])
			spoil(a)
			spoil(b)
			same(t, x.name+" kept what came in", second, want)
		}
	}
}

// P4.1, P0.3
func TestAheadAnswersNewMemory(t *testing.T) {
	for _, a := range []api.Vector{nil, {1, 0, 1}, many(1, 64)} {
		want := plainAhead(a, nil)
		first, second := Ahead(a, nil), Ahead(a, nil)
		for i := range first[:cap(first)] {
			first[:cap(first)][i] = -9
		}
		if third := Ahead(a, nil); !slices.Equal(second, want) || !slices.Equal(third, want) {
			t.Errorf("Ahead(%v, none): %v and %v behind %v", a, second, third, want)
		}
	}
}

// P4.1, P0.3
func TestMaxLeavesTheListOfVectors(t *testing.T) {
	a, b, spare := api.Vector{1, 2, 0}, api.Vector{2, -1}, api.Vector{9}
	list := []api.Vector{a, b, nil, spare}
	same(t, "Max", Max(list[:3]...), api.Vector{2, 2})
	for i, want := range []api.Vector{{1, 2, 0}, {2, -1}, nil, {9}} {
		same(t, "Max changed the list", list[i], want)
	}
	if &list[0][0] != &a[0] || &list[1][0] != &b[0] || &list[3][0] != &spare[0] {
		t.Error("Max changed which vectors the list holds")
	}
}

package content

import (
	"math"
	"slices"
	"testing"

	"lagoon/api"
)

func version(node int, seq int64, seen ...int64) api.Version {
	return api.Version{Stamp: id(10, node), Seq: seq, Seen: seen}
}

func TestBehind(t *testing.T) { // P17.1
	for _, c := range []struct {
		what string
		a, b api.Version
		want bool
	}{
		{"seen just so", version(0, 1), version(1, 1, 1), true},
		{"the other way", version(1, 1, 1), version(0, 1), false},
		{"seen and more", version(0, 1), version(1, 1, 7), true},
		{"seen one less", version(0, 7), version(1, 1, 6), false},
		{"nothing of each other", version(0, 3, 2), version(1, 3, 0, 2), false},
		{"the earlier one of a node", version(2, 3, 0, 0, 2), version(2, 4, 0, 0, 3), true},
		{"the later one of a node", version(2, 4, 0, 0, 3), version(2, 3, 0, 0, 2), false},
		{"seen of another node", version(0, 2), version(1, 1, 1, 9, 9), false},
		{"shorter than the node", version(3, 1), version(1, 1, 9, 9, 9), false},
		{"as long as the node", version(3, 1), version(1, 1, 0, 0, 0, 1), true},
		{"longer than the node", version(3, 1), version(1, 1, 9, 9, 9, 0, 9), false},
		{"of no number", version(3, 1), version(1, 1), false},
		{"the last node", version(63, 5), version(1, 1, append(make([]int64, 63), 5)...), true},
		{"the last node, one less", version(63, 5), version(1, 1, append(make([]int64, 63), 4)...), false},
		{"the greatest number", version(1, 1<<60), version(0, 1, 0, 1<<60), true},
		{"more than the greatest number", version(1, 1<<60+1), version(0, 1, 0, 1<<60), false},
		{"each has seen the other", version(0, 1, 0, 1), version(1, 1, 1), true},
	} {
		if got := Behind(c.a, c.b); got != c.want {
			t.Errorf("%s: Behind(%v, %v) = %v", c.what, c.a, c.b, got)
		}
	}
}

func TestBehindItself(t *testing.T) { // P17.1
	for node := range 64 {
		for _, n := range []int64{0, 1, 2, 900, 1<<60 - 1} {
			seen := append(make([]int64, node), n)
			v := Of(write(10, node, "x", seen...))
			if Behind(v, v) {
				t.Errorf("a version is behind itself: %v", v)
			}
			next := Of(write(11, node, "y", append(make([]int64, node), min(n+1, 1<<60-1))...))
			if Behind(v, next) != (n+1 < 1<<60) || Behind(next, v) {
				t.Errorf("versions of one node: %v, %v", v, next)
			}
		}
	}
}

// Neither Stamps nor Data tell who is behind whom.
func TestBehindAsksNothingElse(t *testing.T) { // P17.1
	a, b := version(0, 3, 2, 9), version(1, 10, 3, 9)
	for _, time := range []int64{math.MinInt64, 0, 9, 10, 11, 1 << 60, math.MaxInt64} {
		for _, data := range []string{"", "a", "b"} {
			a.Stamp.Time, b.Data = time, []byte(data)
			if !Behind(a, b) || Behind(b, a) {
				t.Errorf("Behind(%v, %v)", a, b)
			}
		}
	}
}

// oddNumbers has numbers at the edges and beyond.
func oddNumbers() []int64 {
	return []int64{math.MinInt64, -1, 0, 1, 2, 1<<60 - 1, 1 << 60, 1<<60 + 1, math.MaxInt64}
}

// A vector has 0 for a node and for a number that can't be, and 0 is at least each Seq that is none.
func TestBehindOfWhatCantBe(t *testing.T) { // P17.1, P0.1
	var vectors []api.Vector
	for _, n := range oddNumbers() {
		vectors = append(vectors, api.Vector{n}, append(make(api.Vector, 63), n), append(make(api.Vector, 64), n), slices.Repeat(api.Vector{n}, 99))
	}
	vectors = append(vectors, nil, api.Vector{}, make(api.Vector, 1000))
	for _, node := range []int{math.MinInt, -1, 0, 1, 62, 63, 64, 65, 98, 99, math.MaxInt} {
		for _, seq := range oddNumbers() {
			for _, seen := range vectors {
				a, b := version(node, seq, seen...), version(0, 1, seen...)
				if got := Behind(a, b); got != plainBehind(a, b) {
					t.Errorf("Behind(%v, %v) = %v", a, b, got)
				}
				if got := Behind(a, a); got != plainBehind(a, a) {
					t.Errorf("Behind(%v, itself) = %v", a, got)
				}
			}
		}
	}
	if Behind(api.Version{Stamp: id(1, -1), Seq: 1}, version(0, 1, 9)) || Behind(api.Version{Stamp: id(1, 64), Seq: 1}, version(0, 1, slices.Repeat([]int64{9}, 70)...)) {
		t.Error("a node that can't be has been seen")
	}
	if !Behind(api.Version{}, api.Version{}) {
		t.Error("the zero version")
	}
}

func TestOf(t *testing.T) { // P17.1
	for _, o := range []api.Op{write(10, 0, "one", 1), write(1<<60, 63, "", 7), write(5, 2, "\x00\xff", 1, 2, 3, 0, 0), {}} {
		if got := Of(o); !sameVersion(got, plainOf(o)) {
			t.Errorf("Of(%v) = %v", o, got)
		}
	}
	// It is made of the fields, whatever they hold.
	for what, o := range wrong() {
		if got := Of(o); !sameVersion(got, plainOf(o)) {
			t.Errorf("%s: Of = %.99v", what, got.Stamp)
		}
	}
}

package clash

import (
	"fmt"
	"math"
	"slices"
	"strings"
	"testing"

	"lagoon/api"
)

func TestTheExample(t *testing.T) { // P16.1
	wantShown(t, "the chapter's", []api.ID{id(5, 0), id(7, 2), id(6, 1)}, []string{"a", "a", "b"}, "a", "a\x017.2", "b")
}

func TestShown(t *testing.T) { // P16.1
	rising := []api.ID{id(1, 0), id(2, 0), id(3, 0), id(4, 0)}
	for _, x := range []struct {
		what        string
		ids         []api.ID
		names, want []string
	}{
		{"one", []api.ID{id(3, 1)}, []string{"a"}, []string{"a"}},
		{"all the same", rising, []string{"a", "a", "a", "a"}, []string{"a", "a\x012.0", "a\x013.0", "a\x014.0"}},
		{"all apart", rising, []string{"a", "b", "ab", "A"}, []string{"a", "b", "ab", "A"}},
		{"two and two", rising, []string{"a", "b", "b", "a"}, []string{"a", "b", "b\x013.0", "a\x014.0"}},
		{"the empty name", rising, []string{"", "a", "", ""}, []string{"", "a", "\x013.0", "\x014.0"}},
		{"falling IDs", []api.ID{id(4, 0), id(3, 0), id(2, 0), id(1, 0)}, []string{"a", "a", "a", "b"}, []string{"a\x014.0", "a\x013.0", "a", "b"}},
		{"the least between", []api.ID{id(4, 0), id(1, 0), id(3, 0)}, []string{"a", "a", "a"}, []string{"a\x014.0", "a", "a\x013.0"}},
		{"the least of another name", []api.ID{id(4, 0), id(1, 0), id(3, 0)}, []string{"a", "b", "a"}, []string{"a\x014.0", "b", "a"}},
		{"lesser time, greater node", []api.ID{id(5, 0), id(4, 63)}, []string{"a", "a"}, []string{"a\x015.0", "a"}},
		{"lesser node, greater time", []api.ID{id(4, 63), id(5, 0)}, []string{"a", "a"}, []string{"a", "a\x015.0"}},
		{"one time", []api.ID{id(5, 2), id(5, 1), id(5, 3)}, []string{"a", "a", "a"}, []string{"a\x015.2", "a", "a\x015.3"}},
		{"by numbers, not by digits", []api.ID{id(10, 0), id(9, 10), id(9, 9)}, []string{"a", "a", "a"}, []string{"a\x0110.0", "a\x019.10", "a"}},
		{"zero", []api.ID{id(0, 1), id(0, 0)}, []string{"a", "a"}, []string{"a\x010.1", "a"}},
		{"below 0", []api.ID{id(0, 0), id(-1, 5), id(-2, 5), id(-2, -5)}, []string{"a", "a", "a", "a"}, []string{"a\x010.0", "a\x01-1.5", "a\x01-2.5", "a"}},
		{"the greatest and the least", []api.ID{id(math.MaxInt64, math.MaxInt64), id(math.MinInt64, math.MaxInt64), id(math.MinInt64, math.MinInt64)}, []string{"a", "a", "a"}, []string{"a\x019223372036854775807.9223372036854775807", "a\x01-9223372036854775808.9223372036854775807", "a"}},
		{"the greatest alone", []api.ID{id(math.MaxInt64, math.MaxInt64)}, []string{"a"}, []string{"a"}},
	} {
		wantShown(t, x.what, x.ids, x.names, x.want...)
	}
}

// Of equal IDs the earlier one is as one of a lesser ID.
func TestEqualIDs(t *testing.T) { // P16.1
	five, four := id(5, 1), id(4, 1)
	wantShown(t, "the same name", []api.ID{five, five}, []string{"a", "a"}, "a", "a\x015.1")
	wantShown(t, "three", []api.ID{five, five, five}, []string{"a", "a", "a"}, "a", "a\x015.1", "a\x015.1")
	wantShown(t, "other names", []api.ID{five, five, five}, []string{"a", "b", "c"}, "a", "b", "c")
	wantShown(t, "other names between", []api.ID{five, five, five, five}, []string{"a", "b", "a", "b"}, "a", "b", "a\x015.1", "b\x015.1")
	wantShown(t, "a lesser one behind", []api.ID{five, five, four}, []string{"a", "a", "a"}, "a\x015.1", "a\x015.1", "a")
	wantShown(t, "a lesser one ahead", []api.ID{four, five, five}, []string{"a", "a", "a"}, "a", "a\x015.1", "a\x015.1")
	wantShown(t, "equal lesser ones behind", []api.ID{five, four, four}, []string{"a", "a", "a"}, "a\x015.1", "a", "a\x014.1")
	wantShown(t, "zero", []api.ID{{}, {}}, []string{"a", "a"}, "a", "a\x010.0")
}

// What stands behind the shorter list's end is not there, so it keeps no name from another.
func TestListsOfDifferentLengths(t *testing.T) { // P16.1, P0.4
	ids := []api.ID{id(5, 0), id(7, 2), id(1, 0)}
	names := []string{"a", "a", "a"}
	for _, none := range [][]api.ID{nil, {}} {
		wantShown(t, "no IDs", none, names)
		wantShown(t, "nothing", none, nil)
		wantShown(t, "nothing", none, []string{})
	}
	wantShown(t, "no names", ids, nil)
	wantShown(t, "no names", ids, []string{})
	wantShown(t, "one name", ids, names[:1], "a")
	wantShown(t, "one ID", ids[:1], names, "a")
	wantShown(t, "two names", ids, names[:2], "a", "a\x017.2")
	wantShown(t, "two IDs", ids[:2], names, "a", "a\x017.2")
	wantShown(t, "as many", ids, names, "a\x015.0", "a\x017.2", "a")
	wantShown(t, "IDs in spare room", ids[:0], names)
}

// Names are not asked whether they are such: what holds the byte 1 is as any other text.
func TestNamesThatHoldTheMark(t *testing.T) { // P16.1
	ids := []api.ID{id(5, 0), id(7, 2), id(6, 1), id(8, 0)}
	wantShown(t, "the mark alone", ids, []string{"\x01", "\x01", "a", "a\x01"}, "\x01", "\x01\x017.2", "a", "a\x01")
	wantShown(t, "a name and a suffix", ids, []string{"a\x011.2", "a\x011.2", "a", "a"}, "a\x011.2", "a\x011.2\x017.2", "a", "a\x018.0")
	// Here two are shown alike, for the words look at names alone.
	wantShown(t, "another one's name and suffix", ids, []string{"a", "a", "a\x017.2", "b"}, "a", "a\x017.2", "a\x017.2", "b")
	wantShown(t, "another one's suffix", ids, []string{"", "", "\x017.2", "\x017.2"}, "", "\x017.2", "\x017.2", "\x017.2\x018.0")
	wantShown(t, "its own suffix", ids, []string{"a\x015.0", "a", "a", "a\x015.0"}, "a\x015.0", "a\x017.2", "a", "a\x015.0\x018.0")
}

// No two texts count as the same that are not, byte by byte, whatever they mean elsewhere.
func TestNamesByTheirBytes(t *testing.T) { // P16.1
	apart := append(append(fineNames(), wrongNames()...), "A", "a\x00", "e\u0301", "É", "\u212a", "k", "K", "\xff\xfe")
	slices.Sort(apart)
	apart = slices.Compact(apart)
	ids := make([]api.ID, len(apart))
	wantShown(t, "apart", ids, apart, apart...)
	for _, name := range apart {
		wantShown(t, "twice", []api.ID{id(9, 3), id(9, 2)}, []string{name, strings.Clone(name)}, name+"\x019.3", name)
	}
}

func TestSuffix(t *testing.T) { // P16.1
	for _, x := range []struct {
		id   api.ID
		want string
	}{
		{id(0, 0), "\x010.0"}, {id(1, 2), "\x011.2"}, {id(9, 9), "\x019.9"}, {id(10, 10), "\x0110.10"}, {id(7, 63), "\x017.63"},
		{id(100, 0), "\x01100.0"}, {id(1234567890, 12), "\x011234567890.12"}, {id(great, 63), "\x011152921504606846976.63"},
		{id(-1, 0), "\x01-1.0"}, {id(0, -1), "\x010.-1"}, {id(-3, -1), "\x01-3.-1"}, {id(-120, -64), "\x01-120.-64"}, {id(1000000, 1000000), "\x011000000.1000000"},
		{id(math.MaxInt64, math.MaxInt64), "\x019223372036854775807.9223372036854775807"},
		{id(math.MinInt64, math.MinInt64), "\x01-9223372036854775808.-9223372036854775808"},
	} {
		if got := Suffix(x.id); got != x.want {
			t.Errorf("Suffix(%v) = %q, want %q", x.id, got, x.want)
		}
	}
	for _, id := range edges() {
		if got := Suffix(id); got != plainSuffix(id) {
			t.Errorf("Suffix(%v) = %q, want %q", id, got, plainSuffix(id))
		}
	}
}

// Each two of the edges, with the same name, in both orders.
func TestPairsAtTheEdges(t *testing.T) { // P16.1, P0.1
	for _, a := range edges() {
		for _, b := range edges() {
			ids, names := []api.ID{a, b}, []string{"a", "a"}
			wantShown(t, "a pair", ids, names, plainShown(ids, names)...)
		}
	}
}

// Lists in no order, which hang on the seed alone: few IDs and few names, so that many meet.
func TestManyDraws(t *testing.T) { // P16.1
	names := []string{"a", "b", "", "\x01", "a\x011.0", "a\x01", "\x011.0", "7.2", "a\x011.0\x011.1"}
	for seed := range 3000 {
		n := noise(seed)
		var ids []api.ID
		var drawn []string
		for range n.below(12) {
			ids = append(ids, id(int64(n.below(3)), n.below(3)))
		}
		if seed%3 == 0 {
			for i := range ids {
				ids[i] = pick(&n, edges())
			}
		}
		for range n.below(12) {
			drawn = append(drawn, pick(&n, names))
		}
		wantShown(t, fmt.Sprint("seed ", seed), ids, drawn, plainShown(ids, drawn)...)
	}
}

// Of IDs that are apart and names all that is shown is apart.
func TestAllThatIsShownIsApart(t *testing.T) { // What follows
	for seed := range 3000 {
		n := noise(seed)
		names := []string{"a", "a.1", "1.1", "-1.1", pick(&n, fineNames()), pick(&n, fineNames())}
		met := map[api.ID]int{}
		var ids []api.ID
		var drawn []string
		for range n.below(40) {
			one := id(int64(n.below(13)), n.below(4))
			if seed%2 == 0 {
				one = pick(&n, edges())
			}
			if met[one]++; met[one] == 1 {
				ids, drawn = append(ids, one), append(drawn, pick(&n, names))
			}
		}
		places := map[string]int{}
		for i, text := range Shown(ids, drawn) {
			if other, there := places[text]; there {
				t.Fatalf("seed %d: %q is shown twice: %v and %v of %v, %q", seed, text, ids[other], ids[i], ids, drawn)
			}
			places[text] = i
		}
	}
}

// What is shown does not hang on where in the lists a pair stands, if the IDs are apart.
func TestTheOrderOfTheListsSaysNothing(t *testing.T) { // P16.1
	n := noise(5)
	ids, names := []api.ID{}, []string{}
	for i := range 30 {
		ids, names = append(ids, id(int64(i/3), i%3)), append(names, pick(&n, []string{"a", "b", "c"}))
	}
	want := map[api.ID]string{}
	for i, text := range Shown(ids, names) {
		want[ids[i]] = text
	}
	for range 200 {
		i, j := n.below(len(ids)), n.below(len(ids))
		ids[i], ids[j], names[i], names[j] = ids[j], ids[i], names[j], names[i]
		for k, text := range Shown(ids, names) {
			if text != want[ids[k]] {
				t.Fatalf("%v is shown as %q, was %q", ids[k], text, want[ids[k]])
			}
		}
	}
}

func TestLongLists(t *testing.T) { // P0.1
	const count = 200000
	ids, same, apart := make([]api.ID, count), make([]string, count), make([]string, count)
	for i := range ids {
		ids[i], same[i], apart[i] = id(int64(count-i), i%64), "a", fmt.Sprint(i)
	}
	if !slices.Equal(Shown(ids, apart), apart) {
		t.Error("names that are apart are shown otherwise")
	}
	for i, text := range Shown(ids, same) {
		want := "a" + plainSuffix(ids[i])
		if i == count-1 {
			want = "a"
		}
		if text != want {
			t.Fatalf("%v is shown as %q, want %q", ids[i], text, want)
		}
	}
	long := strings.Repeat("n", 1<<22)
	wantShown(t, "long names", []api.ID{id(2, 0), id(1, 0)}, []string{long, long}, long+"\x012.0", long)
}

package merge

import (
	"slices"
	"testing"

	"lagoon/api"
)

func TestSortedOfNothing(t *testing.T) { // P14.1, P0.4
	wantList(t, "Sorted of no list", Sorted(), nil)
	wantList(t, "Sorted of a nil list", Sorted(nil), nil)
	wantList(t, "Sorted of nil and empty lists", Sorted(nil, []api.Op{}, nil, make([]api.Op, 0, 5)), nil)
	var lists [][]api.Op
	wantList(t, "Sorted of a nil list of lists", Sorted(lists...), nil)
}

func TestSortedOfOneList(t *testing.T) { // P14.1
	wantNames(t, "one", Sorted([]api.Op{op(5, 5, "a")}), "a")
	wantNames(t, "rising", Sorted([]api.Op{op(1, 0, "a"), op(1, 1, "b"), op(2, 0, "c")}), "abc")
	wantNames(t, "falling", Sorted([]api.Op{op(2, 0, "a"), op(1, 1, "b"), op(1, 0, "c")}), "cba")
	wantNames(t, "any", Sorted([]api.Op{op(4, 0, "a"), op(1, 0, "b"), op(5, 0, "c"), op(2, 0, "d"), op(3, 0, "e")}), "bdeac")
}

func TestSortedOfManyLists(t *testing.T) { // P14.1
	a := []api.Op{op(1, 0, "a"), op(4, 0, "b"), op(7, 0, "c")}
	b := []api.Op{op(2, 1, "d"), op(3, 1, "e"), op(9, 1, "f")}
	c := []api.Op{op(8, 2, "g"), op(6, 2, "h"), op(5, 2, "i")}
	wantNames(t, "three", Sorted(a, b, c), "adebihcgf")
	wantNames(t, "three, others between", Sorted(nil, c, []api.Op{}, b, nil, a, nil), "adebihcgf")
	var lists [][]api.Op
	for i := range 300 {
		lists = append(lists, []api.Op{op(int64(i*7%300), 0, "")})
	}
	for i, o := range Sorted(lists...) {
		if o.Stamp != id(int64(i), 0) {
			t.Fatalf("place %d: %v", i, o.Stamp)
		}
	}
}

func TestSortedGoesByTheNodeBehindTheTime(t *testing.T) { // P14.1
	wantNames(t, "Sorted", Sorted([]api.Op{op(3, 2, "a"), op(3, 0, "b")}, []api.Op{op(3, 1, "c"), op(2, 63, "d")}), "dbca")
}

func TestSortedOfEqualStamps(t *testing.T) { // P14.1
	wantNames(t, "in one list", Sorted([]api.Op{op(1, 1, "a"), op(1, 1, "b"), op(1, 1, "c"), op(1, 1, "d"), op(1, 1, "e")}), "abcde")
	a := []api.Op{op(2, 1, "a"), op(1, 1, "b"), op(2, 1, "c")}
	b := []api.Op{op(1, 1, "d"), op(2, 1, "e"), op(1, 1, "f")}
	wantNames(t, "in two lists", Sorted(a, b), "bdface")
	wantNames(t, "in two lists, the other first", Sorted(b, a), "dfbeac")
	wantNames(t, "of a list twice", Sorted(a, a), "bbacac")
	// Not by any other field.
	x, y := full(id(1, 1), 9), full(id(1, 1), 3)
	wantList(t, "others greater", Sorted([]api.Op{x}, []api.Op{y}), []api.Op{x, y})
	wantList(t, "others less", Sorted([]api.Op{y}, []api.Op{x}), []api.Op{y, x})
}

func TestSortedOfOddStamps(t *testing.T) { // P14.1, P0.1
	var os, back []api.Op
	for i, stamp := range oddStamps() {
		os = append(os, full(stamp, i))
	}
	back = slices.Clone(os)
	slices.Reverse(back)
	wantList(t, "odd stamps", Sorted(back), os)
	wantList(t, "odd stamps twice", Sorted(back, os), plainSorted(back, os))
}

func TestSortedAgainstThePlainOne(t *testing.T) { // P14.1
	n := noise(1)
	for range 300 {
		lists := make([][]api.Op, n.below(6))
		spread := 1 + n.below(20)
		for i := range lists {
			for k := range n.below(30) {
				lists[i] = append(lists[i], full(id(int64(n.below(spread)), n.below(3)), 100*i+k))
			}
		}
		wantList(t, "Sorted", Sorted(lists...), plainSorted(lists...))
	}
}

func TestSortedOfManyOperations(t *testing.T) { // P14.1, P0.1
	const many = 100000
	n := noise(2)
	lists := make([][]api.Op, 64)
	for i := range many {
		at := n.below(64)
		lists[at] = append(lists[at], api.Op{Stamp: id(int64(n.below(many)), at), Seq: int64(i)})
	}
	sorted := Sorted(lists...)
	if len(sorted) != many {
		t.Fatalf("%d of %d", len(sorted), many)
	}
	for i := range sorted[1:] {
		a, b := sorted[i], sorted[i+1]
		if plainLess(b.Stamp, a.Stamp) || a.Stamp == b.Stamp && a.Seq > b.Seq {
			t.Fatalf("%v ahead of %v", a, b)
		}
	}
}

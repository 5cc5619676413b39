package content

import (
	"bytes"
	"slices"
	"strconv"
	"testing"

	"lagoon/api"
)

// story gives versions as nodes write them that tell each other now and then: each has seen what its node has.
func story(n *noise, nodes, count int) []api.Op {
	seen := make([]api.Vector, nodes)
	for i := range seen {
		seen[i] = make(api.Vector, nodes)
	}
	var os []api.Op
	for i := range count {
		node := n.below(nodes)
		if from := n.below(nodes); n.below(3) == 0 {
			for k := range nodes {
				seen[node][k] = max(seen[node][k], seen[from][k])
			}
		}
		// Nodes have other files, too, so their numbers leap.
		seen[node][node] += int64(n.below(3))
		o := write(int64(10+i/2), node, strconv.Itoa(i), slices.Clone(seen[node])...)
		if slices.ContainsFunc(os, func(k api.Op) bool { return k.Stamp == o.Stamp }) {
			continue
		}
		seen[node][node] = o.Seq
		os = append(os, o)
	}
	return os
}

// wild gives versions that may be, without a story: what they have seen is drawn.
func wild(n *noise, nodes, count int) []api.Op {
	var os []api.Op
	for i := range count {
		var seen api.Vector
		for range n.below(nodes + 2) {
			seen = append(seen, int64(n.below(4)*n.below(2)))
		}
		os = append(os, write(int64(2+n.below(9)), n.below(nodes), strconv.Itoa(i), seen...))
	}
	return os
}

func distinct(os []api.Op) []api.Op {
	var out []api.Op
	for _, o := range os {
		if !slices.ContainsFunc(out, func(k api.Op) bool { return k.Stamp == o.Stamp }) {
			out = append(out, o)
		}
	}
	return out
}

func TestHeadsHangOnWhichVersionsThereAre(t *testing.T) { // P17.2
	n := noise(17)
	for round := range 300 {
		os := story(&n, 1+n.below(6), 1+n.below(14))
		if round%2 == 1 {
			os = distinct(wild(&n, 1+n.below(6), 1+n.below(10)))
		}
		first := newPair(t, "a draw").add(os...)
		for range 8 {
			other := newPair(t, "a draw, in another order").add(n.shuffled(os)...)
			if !slices.EqualFunc(first.file.Heads(), other.file.Heads(), sameVersion) || !bytes.Equal(first.file.Value(), other.file.Value()) {
				t.Fatalf("Heads hang on the order of %v", os)
			}
		}
	}
}

func TestEachOrder(t *testing.T) { // P17.2
	n := noise(5)
	for range 12 {
		for _, os := range [][]api.Op{story(&n, 3, 5), distinct(wild(&n, 3, 5))} {
			want := plainHeads(os)
			for _, order := range orders(os) {
				p := newPair(t, "each order").add(order...)
				if !slices.EqualFunc(p.file.Heads(), want, sameVersion) {
					t.Fatalf("Heads hang on the order of %v", order)
				}
			}
		}
	}
}

// Versions with one stamp: the first one that came is there.
func TestDrawsWithStampsThatAreThere(t *testing.T) { // P17.1
	n := noise(3)
	for range 300 {
		newPair(t, "a wild draw").add(wild(&n, 1+n.below(4), 30)...)
	}
}

// In a story there is always a head: the one that none has seen yet.
func TestLongStory(t *testing.T) { // P17.1, P17.2
	n := noise(8)
	os := story(&n, 64, 20000)
	file, back := New(), New()
	for i := range os {
		if file.Add(os[i]) != api.OK || back.Add(os[len(os)-1-i]) != api.OK {
			t.Fatalf("Add of %v", os[i])
		}
	}
	heads := file.Heads()
	if len(heads) == 0 || len(heads) > 64 || !slices.EqualFunc(heads, back.Heads(), sameVersion) || file.Len() != len(os) {
		t.Errorf("%d heads of %d", len(heads), file.Len())
	}
}

func TestManyHeads(t *testing.T) { // P17.1, P17.2
	const many = 20000
	var os []api.Op
	for i := range int64(many) {
		os = append(os, write(10+i, 7, strconv.FormatInt(i, 10), 0, i))
	}
	n := noise(2)
	file := New()
	for _, o := range n.shuffled(os) {
		if e := file.Add(o); e != api.OK {
			t.Fatalf("Add = %d", e)
		}
	}
	heads := file.Heads()
	if len(heads) != many || !slices.IsSortedFunc(heads, func(a, b api.Version) int { return int(a.Stamp.Time - b.Stamp.Time) }) {
		t.Errorf("%d heads", len(heads))
	}
	wantValue := strconv.Itoa(many - 1)
	if string(file.Value()) != wantValue || file.Add(write(5, 2, "all", 0, 0, 0, 0, 0, 0, 0, 1)) != api.OK {
		t.Errorf("Value = %q", file.Value())
	}
	wantHeads(t, "many that were seen at once", file, many+1, "all")
}

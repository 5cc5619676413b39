package content

import (
	"bytes"
	"fmt"
	"slices"
	"testing"

	"lagoon/api"
)

// roomy gives an operation whose lists have spare room that holds something, and a look at all of its memory.
func roomy(o api.Op) (api.Op, func() string) {
	data, seen := append(bytes.Clone(o.Data), "spare bytes"...), append(slices.Clone(o.Seen), 3, 4, 5)
	o.Data, o.Seen = data[:len(o.Data)], seen[:len(o.Seen)]
	return o, func() string { return fmt.Sprint(o, data, seen) }
}

func spoilBytes(b []byte) {
	b = b[:cap(b)]
	for i := range b {
		b[i] ^= 0xff
	}
}

func spoilVector(v api.Vector) {
	v = v[:cap(v)]
	for i := range v {
		v[i] ^= 0xff
	}
}

// spoilVersions writes over all memory of the versions, spare room too.
func spoilVersions(vs []api.Version) {
	vs = vs[:cap(vs)]
	for i, v := range vs {
		spoilBytes(v.Data)
		spoilVector(v.Seen)
		vs[i] = api.Version{Stamp: id(77, 7), Seq: 7}
	}
}

// several are versions of which three are heads.
func several() []api.Op {
	return []api.Op{write(10, 0, "one", 1), write(11, 1, "two", 1, 4), write(12, 2, "three", 2, 0, 6), write(13, 3, "four"), write(9, 4, "", 1)}
}

func TestOperationsAreTheCallersOwn(t *testing.T) { // P0.3
	p := newPair(t, "a file")
	for range 2 { // the second time all stamps are there
		for _, o := range several() {
			o, memory := roomy(o)
			before := memory()
			p.add(o)
			if memory() != before {
				t.Error("Add changed what was handed in")
			}
			spoilBytes(o.Data)
			spoilVector(o.Seen)
			p.want()
		}
	}
	p.add(write(30, 5, "all", 9, 9, 9, 9, 9))
	wantHeads(t, "a file", p.file, 6, "all")
}

func TestHeadsAreNewMemory(t *testing.T) { // P17.2, P0.3
	p := newPair(t, "a file").add(several()...)
	first, second := p.file.Heads(), p.file.Heads()
	spoilVersions(first)
	p.want()
	if !slices.EqualFunc(second, plainHeads(p.os), sameVersion) {
		t.Error("writing into one answer changed another one")
	}
	_ = append(second, api.Version{})
	for _, v := range second {
		_, _ = append(v.Data, "more"...), append(v.Seen, 8)
	}
	p.want()
	// An answer stays as it was, whatever comes then.
	want := plainHeads(p.os)
	p.add(write(5, 6, "early"), write(30, 5, "some", 9, 9), write(40, 5, "all", 9, 9, 9, 9, 9, 1, 9))
	if !slices.EqualFunc(second, want, sameVersion) {
		t.Errorf("an earlier answer is %v, was %v", second, want)
	}
}

func TestListsOfOneAnswerAreApart(t *testing.T) { // P0.3
	shared := api.Vector{0, 0, 0, 0, 9}
	data := []byte("the same bytes")
	p := newPair(t, "a file")
	for node := range 4 {
		o := write(int64(10+node), node, "", shared...)
		o.Seen, o.Data = shared, data
		p.add(o)
	}
	heads := p.file.Heads()
	if len(heads) != 4 {
		t.Fatalf("%d heads", len(heads))
	}
	for i, v := range heads {
		spoilBytes(v.Data)
		spoilVector(v.Seen)
		if !slices.EqualFunc(heads[i+1:], plainHeads(p.os)[i+1:], sameVersion) {
			t.Errorf("writing into version %d changed those behind it", i)
		}
	}
	p.want()
}

func TestValueIsNewMemory(t *testing.T) { // P17.2, P0.3
	p := newPair(t, "a file").add(several()...)
	first, second, heads := p.file.Value(), p.file.Value(), p.file.Heads()
	spoilBytes(first)
	_ = append(second, "more"...)
	p.want()
	if string(second) != "four" || !slices.EqualFunc(heads, plainHeads(p.os), sameVersion) {
		t.Error("writing into one answer changed another one")
	}
	spoilVersions(heads)
	p.add(write(30, 5, "all", 9, 9, 9, 9, 9))
	if string(second) != "four" {
		t.Errorf("an earlier answer is %q", second)
	}
}

func TestOfIsNewMemory(t *testing.T) { // P17.2, P0.3
	o, memory := roomy(write(10, 1, "one", 1, 4))
	before := memory()
	first, second := Of(o), Of(o)
	Behind(first, second)
	if memory() != before || !sameVersion(first, plainOf(o)) {
		t.Error("Of or Behind changed what was handed in")
	}
	spoilVersions([]api.Version{first})
	_, _ = append(second.Data, "more"...), append(second.Seen, 8)
	if memory() != before || !sameVersion(second, plainOf(o)) {
		t.Error("writing into an answer changed what was handed in, or another answer")
	}
	want := plainOf(o)
	spoilBytes(o.Data)
	spoilVector(o.Seen)
	if !sameVersion(second, want) {
		t.Error("writing into what was handed in changed an answer")
	}
}

func TestBehindChangesNothing(t *testing.T) { // P0.3
	o, memory := roomy(write(10, 1, "one", 1, 4))
	k, other := roomy(write(20, 0, "two", 7, 5, 0, 0))
	before, otherBefore := memory(), other()
	a, b := api.Version{Stamp: o.Stamp, Seq: o.Seq, Seen: o.Seen, Data: o.Data}, api.Version{Stamp: k.Stamp, Seq: k.Seq, Seen: k.Seen, Data: k.Data}
	for range 2 {
		if !Behind(a, b) || Behind(b, a) {
			t.Error("Behind")
		}
	}
	if memory() != before || other() != otherBefore {
		t.Error("Behind changed what was handed in")
	}
}

func TestFilesKnowNothingOfEachOther(t *testing.T) { // P0.5
	n := noise(4)
	one, two, none := newPair(t, "one"), newPair(t, "two"), newPair(t, "none")
	os := story(&n, 4, 20)
	other := n.shuffled(os)
	for i, o := range n.shuffled(os) {
		one.add(o)
		if i%2 == 0 {
			two.add(other[i])
		}
		one.want()
		none.want()
	}
	two.add(write(900, 9, "of two alone", 99, 99, 99, 99))
	wantHeads(t, "two", two.file, two.file.Len(), "of two alone")
	one.want()
	one.add(write(900, 9, "of one alone", 99))
	two.want()
	none.want()
}

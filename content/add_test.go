package content

import (
	"bytes"
	"strconv"
	"strings"
	"testing"

	"lagoon/api"
)

func TestAFileOfNoVersion(t *testing.T) { // P17.1
	p := newPair(t, "a new file").want()
	wantHeads(t, "a new file", p.file, 0)
	var zero File
	wantHeads(t, "the zero value", &zero, 0)
	if e := zero.Add(write(10, 0, "one", 1)); e != api.OK {
		t.Errorf("the zero value: Add = %d", e)
	}
	wantHeads(t, "the zero value, behind an Add", &zero, 1, "one")
}

func TestAFileOfOneVersion(t *testing.T) { // P17.1
	for _, o := range []api.Op{write(10, 0, "one"), write(10, 0, "one", 1), write(10, 63, "one", 5), write(10, 2, "one", 9, 9, 9, 9), write(1<<60, 63, "one", 1<<60)} {
		p := newPair(t, "one version").add(o)
		wantHeads(t, "one version", p.file, 1, "one")
		if h := p.file.Heads(); !sameVersion(h[0], plainOf(o)) {
			t.Errorf("Heads = %v of %v", h, o)
		}
	}
}

func TestVersionsThatKnowNothingOfEachOther(t *testing.T) { // P17.1
	one, two, three := write(10, 0, "one", 1), write(9, 1, "two!", 1), write(11, 2, "three", 1)
	for _, order := range orders([]api.Op{one, two, three}) {
		p := newPair(t, "apart").add(order...)
		wantHeads(t, "apart", p.file, 3, "two!", "one", "three")
	}
}

// Of the same time it is the node that tells which stamp is the greater one.
func TestHeadsOfOneTime(t *testing.T) { // P17.1
	for _, order := range orders([]api.Op{write(10, 0, "a"), write(10, 1, "b"), write(10, 9, "c"), write(10, 10, "d"), write(9, 63, "e")}) {
		p := newPair(t, "one time").add(order...)
		wantHeads(t, "one time", p.file, 5, "e", "a", "b", "c", "d")
	}
}

func TestAVersionThatHasSeenAllOthers(t *testing.T) { // P17.1
	one, two, both := write(10, 0, "one", 1), write(12, 1, "two", 1), write(20, 2, "both", 2, 1)
	p := newPair(t, "all").add(one, two)
	wantHeads(t, "ahead of it", p.file, 2, "one", "two")
	p.add(both)
	wantHeads(t, "behind it", p.file, 3, "both")
}

func TestAVersionThatHasSeenSome(t *testing.T) { // P17.1
	one, two, three := write(10, 0, "one", 1), write(12, 1, "two", 1), write(20, 2, "three", 1, 1)
	p := newPair(t, "some").add(one, two, three)
	wantHeads(t, "some", p.file, 3, "one", "three")
	// The same number of another node says nothing of this one's.
	p.add(write(30, 3, "four", 1, 7, 0, 0, 9))
	wantHeads(t, "of other nodes", p.file, 4, "one", "three", "four")
}

func TestVersionsOfOneNode(t *testing.T) { // P17.1
	p := newPair(t, "one node")
	var os []api.Op
	for i := range int64(8) {
		o := write(10+i, 3, strconv.FormatInt(i, 10), 1, 0, 0, i)
		os = append(os, o)
		p.add(o)
		wantHeads(t, "one node, each behind the next", p.file, int(i)+1, string(o.Data))
	}
	// From the last one on: the others are behind it when they come.
	p = newPair(t, "one node, the last one first")
	for i := range os {
		p.add(os[len(os)-1-i])
		wantHeads(t, "the last one first", p.file, i+1, "7")
	}
}

func TestAVersionThatWasSeenBeforeItCame(t *testing.T) { // P17.1
	late, early := write(20, 1, "late", 2), write(10, 0, "early", 1)
	p := newPair(t, "seen before").add(late, early)
	wantHeads(t, "seen before", p.file, 2, "late")
	// What has a greater stamp than what has seen it is behind it, all the same.
	p = newPair(t, "seen, of a greater stamp").add(write(30, 0, "greater", 1), write(5, 1, "less", 2))
	wantHeads(t, "seen, of a greater stamp", p.file, 2, "less")
	p = newPair(t, "seen, of a greater stamp").add(write(5, 1, "less", 2), write(30, 0, "greater", 1))
	wantHeads(t, "seen before, of a greater stamp", p.file, 2, "less")
}

func TestSeenMoreThanThereIs(t *testing.T) { // P17.1
	p := newPair(t, "more").add(write(10, 0, "one", 1), write(20, 1, "more", 900))
	wantHeads(t, "more", p.file, 2, "more")
	p.add(write(30, 0, "its last", 899))
	wantHeads(t, "the last that is seen", p.file, 3, "more")
	p.add(write(31, 0, "its next", 900))
	wantHeads(t, "the first that is not", p.file, 4, "more", "its next")
	// Of a node of which there is no version at all.
	p.add(write(40, 2, "other", 0, 0, 0, 0, 1<<60))
	wantHeads(t, "of a node without a version", p.file, 5, "more", "its next", "other")
	p.add(write(41, 4, "late", 901, 1))
	wantHeads(t, "seen long ago", p.file, 6, "other")
}

// The first one is no head though the last one knows nothing of it: what has seen it is a version of the file, head or not.
func TestAChain(t *testing.T) { // P17.1
	a, b, c := write(10, 0, "a"), write(20, 1, "b", 1), write(30, 2, "c", 0, 1)
	for _, order := range orders([]api.Op{a, b, c}) {
		p := newPair(t, "a chain").add(order...)
		wantHeads(t, "a chain", p.file, 3, "c")
	}
	p := newPair(t, "a chain").add(a, c)
	wantHeads(t, "without what is between", p.file, 2, "a", "c")
}

// Each has seen the other: by the words there is no head.
func TestVersionsThatHaveSeenEachOther(t *testing.T) { // P17.1
	a, b, c := write(10, 0, "a", 0, 1), write(20, 1, "b", 0, 0, 1), write(30, 2, "c", 1)
	for _, order := range orders([]api.Op{a, b, c}) {
		p := newPair(t, "a ring").add(order...)
		wantHeads(t, "a ring", p.file, 3)
		p.add(write(5, 3, "d"))
		wantHeads(t, "a ring and one more", p.file, 4, "d")
	}
	p := newPair(t, "a ring of two").add(write(10, 0, "a", 0, 1), write(20, 1, "b", 1))
	wantHeads(t, "a ring of two", p.file, 2)
}

// A file does not ask how a node counts: two of its versions with one number are behind neither.
func TestVersionsOfOneNodeAndNumber(t *testing.T) { // P17.1
	p := newPair(t, "one number").add(write(10, 0, "a", 4), write(11, 0, "b", 4), write(9, 0, "c", 4))
	wantHeads(t, "one number", p.file, 3, "c", "a", "b")
	p.add(write(12, 0, "d", 5))
	wantHeads(t, "the next number", p.file, 4, "d")
}

func TestDataOfNoBytes(t *testing.T) { // P17.1
	p := newPair(t, "no bytes").add(write(10, 0, ""))
	wantHeads(t, "no bytes", p.file, 1, "")
	p.add(write(9, 1, "some"))
	wantHeads(t, "no bytes, of the greater stamp", p.file, 2, "some", "")
	p.add(write(20, 2, "more", 0, 1))
	wantHeads(t, "more", p.file, 3, "", "more")
	p.add(write(30, 3, "", 1, 1, 1))
	wantHeads(t, "no bytes again", p.file, 4, "")
}

func TestDataOfManyBytes(t *testing.T) { // P17.1
	long := strings.Repeat("lagoon", 1<<14)[:api.MaxFile]
	p := newPair(t, "the longest").add(write(10, 0, long))
	wantHeads(t, "the longest", p.file, 1, long)
	p.add(write(20, 0, long+"x", 1))
	wantHeads(t, "one byte too long", p.file, 1, long)
	all := make([]byte, 256)
	for i := range all {
		all[i] = byte(i)
	}
	p.add(write(30, 0, string(all), 1))
	if !bytes.Equal(p.file.Value(), all) {
		t.Error("bytes are changed")
	}
}

func TestAStampThatIsThere(t *testing.T) { // P17.1, P0.2
	one, two := write(10, 0, "one", 1), write(20, 1, "two", 1)
	p := newPair(t, "there").add(one, two, write(30, 2, "seen", 2))
	want := func(what string, o api.Op) {
		t.Helper()
		if e := p.file.Add(o); e != api.EEXIST {
			t.Errorf("%s: Add = %d", what, e)
		}
		p.want()
		wantHeads(t, what, p.file, 3, "two", "seen")
	}
	want("a head", two)
	want("a head, other data", write(20, 1, "other", 1))
	want("a head, of another number", write(20, 1, "other", 9, 9, 9))
	want("no head", one)
	want("no head, other data", write(10, 0, "other", 1))
	want("no head, of another number that none has seen", write(10, 0, "other", 99))
	want("no head, having seen all", write(10, 0, "other", 5, 9, 9, 9))
	other := two
	other.Obj = id(2, 0)
	want("a head, of another object", other)
	// What was refused has not been seen.
	p.add(write(40, 4, "new"), write(41, 3, "newer"))
	wantHeads(t, "behind what was refused", p.file, 5, "two", "seen", "new", "newer")
	// The same time of another node, and the other way round, is another stamp.
	p.add(write(20, 5, "time"), write(21, 1, "node", 1))
	wantHeads(t, "other stamps", p.file, 7, "two", "time", "node", "seen", "new", "newer")
}

// Whose content it is, the file leaves to those who add.
func TestOperationsOnSeveralObjects(t *testing.T) { // P17.1
	one, two := write(10, 0, "one"), write(20, 1, "two")
	two.Obj = id(3, 7)
	p := newPair(t, "two objects").add(one, two)
	wantHeads(t, "two objects", p.file, 2, "one", "two")
}

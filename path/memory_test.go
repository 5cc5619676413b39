package path

import (
	"slices"
	"testing"

	"lagoon/api"
)

// roomy gives a list with spare room that holds something, and a look at all of its memory.
func roomy() ([]string, func() bool) {
	all := []string{"a", "b", "c", "d", "e", "f"}
	old := slices.Clone(all)
	return all[:3], func() bool { return slices.Equal(all, old) }
}

func spoil(texts []string) {
	texts = texts[:cap(texts)]
	for i := range texts {
		texts[i] = "spoiled"
	}
}

func TestAnswersAreTheCallersOwn(t *testing.T) { // P0.3
	for _, s := range []string{"/", "/a", "/a/b\x011.2/c"} {
		want := plainParse(s).names
		first, _ := Parse(s)
		second, _ := Parse(s)
		spoil(first)
		_ = append(first, "more")
		if !slices.Equal(second, want) {
			t.Errorf("Parse(%q): writing into an answer changed another one: %q", s, second)
		}
		wantNames(t, "behind a spoiled answer", s, want...)
	}
}

func TestListsAreNeitherChangedNorKept(t *testing.T) { // P0.3
	p, isAsBefore := roomy()
	joined := Join(p)
	if e := Fresh(p); e != api.OK {
		t.Errorf("Fresh = %d", e)
	}
	if !Above(p[:2], p) || Above(p, p[:2]) || Above(p, p) {
		t.Error("Above of lists that share their memory")
	}
	if !isAsBefore() {
		t.Error("what was handed in is changed")
	}
	spoil(p)
	if joined != "/a/b/c" {
		t.Errorf("writing into what was handed in changed an answer: %q", joined)
	}
	wantJoin(t, "behind a change", p, "/spoiled/spoiled/spoiled")
}

// What stands in spare room is no part of a list.
func TestSpareRoomSaysNothing(t *testing.T) { // P0.3, P0.4
	p, _ := roomy()
	wantJoin(t, "none of six", p[:0], "/")
	wantFresh(t, "none of six", api.EEXIST, p[:0]...)
	wantAbove(t, "none of six in none", p[:0], nil, false)
	wantAbove(t, "none in none of six", nil, p[:0], false)
	wantAbove(t, "two of six in two", p[:2], []string{"a", "b"}, false)
	wantAbove(t, "two in two of six", []string{"a", "b"}, p[:2], false)
	wantAbove(t, "two in three of six", []string{"a", "b"}, p, true)
	wantJoin(t, "two of six", p[:2], "/a/b")
	p[2] = "\x01"
	wantFresh(t, "two of six", api.OK, p[:2]...)
}

func TestCallsKnowNothingOfEachOther(t *testing.T) { // P0.5
	for range 3 {
		wantNames(t, "fine", "/a/b", "a", "b")
		wantFault(t, "wrong", "/a//b", api.EINVAL)
		wantFault(t, "long", "/"+string(make([]byte, 1024)), api.ENAMETOOLONG)
		wantNames(t, "the root", "/")
		wantJoin(t, "fine", []string{"a", "b"}, "/a/b")
		wantJoin(t, "none", nil, "/")
		wantFresh(t, "none", api.EEXIST)
		wantFresh(t, "fine", api.OK, "a")
		wantAbove(t, "a front", []string{"a"}, []string{"a", "b"}, true)
		wantAbove(t, "the same", []string{"a"}, []string{"a"}, false)
	}
}

// With an error no names are told.
func TestNoNamesWithAnError(t *testing.T) { // P0.2
	for _, s := range []string{"", "a", "//", "/a/", "/a/b/..", "/a/b/\x00", "/a/b/" + longNames()[0], plainJoin(slices.Repeat([]string{"a"}, 65)), pathOf(20, 1025)} {
		if names, e := Parse(s); e == api.OK || len(names) != 0 {
			t.Errorf("Parse(%.20q) = %.100q, %d", s, names, e)
		}
	}
}

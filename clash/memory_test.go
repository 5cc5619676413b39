package clash

import (
	"slices"
	"testing"

	"lagoon/api"
)

// roomy gives lists with spare room that holds something, and a look at all of their memory.
func roomy() ([]api.ID, []string, func() bool) {
	ids := []api.ID{id(5, 0), id(7, 2), id(6, 1), id(4, 3), id(1, 0), id(2, 0)}
	names := []string{"a", "a", "b", "a", "a", "b"}
	oldIDs, oldNames := slices.Clone(ids), slices.Clone(names)
	return ids[:4], names[:4], func() bool { return slices.Equal(ids, oldIDs) && slices.Equal(names, oldNames) }
}

func spoil(texts []string) {
	texts = texts[:cap(texts)]
	for i := range texts {
		texts[i] = "spoiled"
	}
}

func TestListsAreTheCallersOwn(t *testing.T) { // P0.3
	want := []string{"a\x015.0", "a\x017.2", "b", "a"}
	ids, names, isAsBefore := roomy()
	first, second := Shown(ids, names), Shown(ids, names)
	if !isAsBefore() {
		t.Error("what was handed in is changed")
	}
	spoil(first)
	_ = append(first, "more")
	if !isAsBefore() || !slices.Equal(second, want) {
		t.Error("writing into an answer changed what was handed in, or another answer")
	}
	wantShown(t, "behind a spoiled answer", ids, names, want...)
	spoil(names)
	clear(ids[:cap(ids)])
	if !slices.Equal(second, want) {
		t.Error("writing into what was handed in changed an answer")
	}
}

// Names that nothing is put behind must not be answered as the list that came in, either.
func TestNamesThatStayAreNewMemory(t *testing.T) { // P0.3
	ids, names := []api.ID{id(1, 0), id(2, 0)}, []string{"a", "b", "c"}
	shown := Shown(ids, names)
	spoil(shown)
	if !slices.Equal(names, []string{"a", "b", "c"}) {
		t.Errorf("names are %q", names)
	}
	shown = Shown(ids, names)
	names[0], names[2] = "x", "y"
	if !slices.Equal(shown, []string{"a", "b"}) {
		t.Errorf("shown is %q", shown)
	}
}

func TestCallsKnowNothingOfEachOther(t *testing.T) { // P0.5
	for range 3 {
		wantShown(t, "one", []api.ID{id(5, 0)}, []string{"a"}, "a")
		wantShown(t, "another", []api.ID{id(7, 2)}, []string{"a"}, "a")
		wantShown(t, "both", []api.ID{id(7, 2), id(5, 0)}, []string{"a", "a"}, "a\x017.2", "a")
		wantSplit(t, "a\x017.2", split{"a", id(7, 2), true})
		wantNone(t, "a")
		wantNone(t, "a\x017.")
	}
}

package path

import (
	"fmt"
	"slices"
	"strings"
	"testing"

	"lagoon/api"
)

func TestJoin(t *testing.T) { // P19.2
	for _, x := range []struct {
		what string
		p    []string
		want string
	}{
		{"nil", nil, "/"},
		{"none", []string{}, "/"},
		{"one", []string{"a"}, "/a"},
		{"two", []string{"a", "b"}, "/a/b"},
		{"in their order", []string{"c", "ab", "b"}, "/c/ab/b"},
		{"the same", []string{"a", "a"}, "/a/a"},
		{"shown ones", []string{"a\x011.2", "b"}, "/a\x011.2/b"},
		{"an empty one", []string{""}, "/"},
		{"two empty ones", []string{"", ""}, "//"},
		{"three empty ones", []string{"", "", ""}, "///"},
		{"an empty one first", []string{"", "a"}, "//a"},
		{"an empty one last", []string{"a", ""}, "/a/"},
		{"an empty one between", []string{"a", "", "b"}, "/a//b"},
		{"a slash", []string{"/"}, "//"},
		{"slashes in names", []string{"a/b", "/c", "d/"}, "/a/b//c/d/"},
		{"dots", []string{".", "..", "..."}, "/./../..."},
		{"any bytes", []string{"\x00", "\x01", "\xff"}, "/\x00/\x01/\xff"},
		{"a long one", []string{strings.Repeat("n", 5000), "a"}, "/" + strings.Repeat("n", 5000) + "/a"},
		{"many", slices.Repeat([]string{"a"}, 65), strings.Repeat("/a", 65)},
	} {
		wantJoin(t, x.what, x.p, x.want)
	}
	if s := Join(slices.Repeat([]string{"ab"}, 1<<20)); s != strings.Repeat("/ab", 1<<20) {
		t.Errorf("of very many: %d bytes", len(s))
	}
}

// Names that Parse takes are those that Parse gives of their Join; of others Join is as the words say.
func TestJoinOfManyDraws(t *testing.T) { // P19.2
	fine := slices.Concat(fineNames(), shownNames())
	wrong := slices.Concat(fineNames(), wrongNames(), longNames(), []string{"/", "a/b", "/a", "a/"})
	for seed := range 5000 {
		n := noise(seed)
		p := some(&n, fine, n.below(13))
		s := Join(p)
		if s != plainJoin(p) {
			t.Fatalf("seed %d: Join(%q) = %q", seed, p, s)
		}
		if len(s) <= 1024 {
			wantNames(t, fmt.Sprint("seed ", seed), s, p...)
		}
		p = some(&n, wrong, n.below(13))
		wantJoin(t, fmt.Sprint("seed ", seed), p, plainJoin(p))
	}
}

func TestFresh(t *testing.T) { // P19.2
	wantFresh(t, "none", api.EEXIST)
	wantFresh(t, "none", api.EEXIST, []string{}...)
	for _, ahead := range [][]string{nil, {"a"}, {"a", "b", "c"}, {""}, {"."}, {"a/b"}, {"a\x011.2"}, {"\x01"}, {strings.Repeat("n", 65)}, slices.Repeat([]string{"a"}, 64), slices.Repeat([]string{strings.Repeat("n", 2000)}, 100)} {
		for _, name := range fineNames() {
			wantFresh(t, "a name", api.OK, append(slices.Clone(ahead), name)...)
		}
		for _, name := range append(wrongNames(), "/", "a/b", "/a", "a/", strings.Repeat("n", 65)+"/") {
			wantFresh(t, "no name", api.EINVAL, append(slices.Clone(ahead), name)...)
		}
		for _, name := range shownNames() {
			wantFresh(t, "a shown name", api.EINVAL, append(slices.Clone(ahead), name)...)
		}
		for _, name := range append(longNames(), strings.Repeat("n", 1<<20)) {
			wantFresh(t, "a long name", api.ENAMETOOLONG, append(slices.Clone(ahead), name)...)
		}
	}
}

// The first name says nothing, unless it is the last one.
func TestFreshByTheLastName(t *testing.T) { // P19.2
	long := strings.Repeat("n", 65)
	for _, x := range []struct {
		p []string
		e api.Errno
	}{
		{[]string{"\x01", "b"}, api.OK}, {[]string{"b", "\x01"}, api.EINVAL},
		{[]string{long, "b"}, api.OK}, {[]string{"b", long}, api.ENAMETOOLONG},
		{[]string{long, ""}, api.EINVAL}, {[]string{"", long}, api.ENAMETOOLONG},
		{[]string{"b", ".."}, api.EINVAL}, {[]string{"..", "b"}, api.OK},
		{[]string{"a", long, "a"}, api.OK}, {[]string{long, "a", ""}, api.EINVAL}, {[]string{"", "", "a"}, api.OK},
	} {
		wantFresh(t, "by the last", x.e, x.p...)
	}
}

func TestAbove(t *testing.T) { // P19.2
	for _, x := range []struct {
		what string
		p, q []string
		want bool
	}{
		{"none in none", nil, nil, false},
		{"none in none", []string{}, nil, false},
		{"none in none", nil, []string{}, false},
		{"none in one", nil, []string{"a"}, true},
		{"none in one", []string{}, []string{"a"}, true},
		{"none in an empty one", nil, []string{""}, true},
		{"one in none", []string{"a"}, nil, false},
		{"an empty one in none", []string{""}, nil, false},
		{"the same", []string{"a"}, []string{"a"}, false},
		{"the same of many", []string{"a", "b", "c"}, []string{"a", "b", "c"}, false},
		{"a front", []string{"a"}, []string{"a", "b"}, true},
		{"a longer front", []string{"a", "b"}, []string{"a", "b", "c", "d"}, true},
		{"all but the last", []string{"a", "b", "c"}, []string{"a", "b", "c", "d"}, true},
		{"none in many", nil, []string{"a", "b", "c"}, true},
		{"longer by one", []string{"a", "b"}, []string{"a"}, false},
		{"longer by many", []string{"a", "b", "c", "d"}, []string{"a"}, false},
		{"apart at the first", []string{"b"}, []string{"a", "b"}, false},
		{"apart at the first of many", []string{"x", "b"}, []string{"a", "b", "c"}, false},
		{"apart between", []string{"a", "x", "c"}, []string{"a", "b", "c", "d"}, false},
		{"apart at the last", []string{"a", "x"}, []string{"a", "b", "c"}, false},
		{"as long, apart", []string{"a", "x"}, []string{"a", "b"}, false},
		{"the end, not the front", []string{"b"}, []string{"a", "b"}, false},
		{"a name's front", []string{"a"}, []string{"ab", "c"}, false},
		{"a name and more", []string{"ab"}, []string{"a", "b"}, false},
		{"a slash is no parting", []string{"a/b"}, []string{"a", "b", "c"}, false},
		{"one with a slash in two", []string{"a"}, []string{"a/b", "c"}, false},
		{"an empty one", []string{""}, []string{"", "a"}, true},
		{"an empty one is a name", []string{""}, []string{"a", "b"}, false},
		{"an empty one behind", []string{"a"}, []string{"a", ""}, true},
		{"a shown name is another one", []string{"a\x011.2"}, []string{"a", "b"}, false},
		{"a name is another one than a shown one", []string{"a"}, []string{"a\x011.2", "b"}, false},
		{"shown names", []string{"a\x011.2"}, []string{"a\x011.2", "b"}, true},
		{"small and capital", []string{"A"}, []string{"a", "b"}, false},
		{"dots mean nothing", []string{"a"}, []string{"b", "..", "a", "c"}, false},
	} {
		wantAbove(t, x.what, x.p, x.q, x.want)
	}
}

// Lists of few letters, so that many are fronts of each other.
func TestAboveOfAllShortLists(t *testing.T) { // P19.2
	lists := [][]string{nil}
	for i := 0; len(lists[i]) < 3; i++ {
		for _, name := range []string{"", "a", "b", "ab"} {
			lists = append(lists, append(slices.Clone(lists[i]), name))
		}
	}
	for _, p := range lists {
		for _, q := range lists {
			wantAbove(t, "short", p, q, plainAbove(p, q))
		}
	}
}

func TestAboveOfLongLists(t *testing.T) { // P0.1
	const count = 1 << 20
	q := slices.Repeat([]string{"a"}, count)
	for place, want := range map[int]bool{0: false, count / 2: false, count - 2: false, count - 1: true} {
		p := slices.Clone(q[:count-1])
		if place < len(p) {
			p[place] = "b"
		}
		if Above(p, q) != want || Above(q, p) {
			t.Errorf("another name at %d: %v, %v", place, Above(p, q), Above(q, p))
		}
	}
	if Above(q, slices.Clone(q)) {
		t.Error("above the same")
	}
}

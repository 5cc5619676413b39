package localfs

import (
	"math"
	"slices"
	"strings"
	"testing"

	"lagoon/api"
)

// sample is a file system with some of everything.
func sample(t *testing.T) (*FS, state) {
	t.Helper()
	_, f := made(t, blocksOf(700))
	s := must(t, f, empty(), mkdir("d"), mkdir("d/e"), create("d/f"), write("d/f", 0, "hello"), mkdir("empty"), replace("g", strings.Repeat("0123456789", 200)), create("none"), mkdir("d/e/deep"))
	return f, s
}

// wantCalls makes each call on a sample of its own: it must tell that error and answer as the plain state does, and an error must have changed nothing.
func wantCalls(t *testing.T, wants []wanted) {
	t.Helper()
	for _, x := range wants {
		f, s := sample(t)
		next, plain := s.after(x.c, f.capacity)
		if plain.e != x.e {
			t.Errorf("%v: the plain state tells %d, the test %d", x.c, plain.e, x.e)
		}
		commits := f.commits
		if got := x.c.on(f); got.e != x.e || got != plain {
			t.Errorf("%v = %d, %.60q, want %d, %.60q", x.c, got.e, got.text, x.e, plain.text)
		}
		if x.e != api.OK && f.volume.Commits() != commits {
			t.Errorf("%v was committed", x.c)
		}
		wantState(t, f, next)
		wantWhole(t, f)
	}
}

type wanted struct {
	c call
	e api.Errno
}

// eachCall is one call of each kind with that path, of which no error but the path's own comes ahead of that of a last name that is not there.
func eachCall(p []string) []call {
	calls := []call{{fn: "Rename", p: p, q: to("new")}}
	for _, fn := range []string{"Mkdir", "Create", "Write", "Truncate", "Replace", "Read", "Remove", "List", "Stat"} {
		calls = append(calls, call{fn: fn, p: p, at: 3, count: 2, b: []byte("xy")})
	}
	return calls
}

func TestErrorsOfAPath(t *testing.T) { // P11.2
	deep := func(n int) []string { return slices.Repeat([]string{"d"}, n) }
	long, longest := longName(65), strings.Repeat("x", 1<<20)
	wants := map[api.Errno][][]string{
		api.EINVAL: {
			deep(65), deep(66), make([]string, 65), make([]string, 1<<16), append([]string{long}, deep(64)...), // more than 64 names come first
			{""}, {"."}, {".."}, {"a/b"}, {"/"}, {"x\x00"}, {"\x00"}, {"", "a"}, {"d", "", "f"}, {"d", "e", "."}, {"d", "..", "f"}, {"g", ""}, {"no", "no", "/"},
			{longest + "/"}, {"", long}, {"d", ".", long}, in(deep(63), ""),
		},
		api.ENAMETOOLONG: {{long}, {longest}, {long, ""}, {"d", long, "."}, {"d", "f", long}, {"no", "no", long}, {"g", long}, in(deep(63), long)},
		api.ENOTDIR:      {{"g", "x"}, {"d", "f", "x"}, {"d", "f", "x", "y"}, {"none", "d", "f"}, {"g", longName(64)}},
		api.ENOENT:       {{"no", "x"}, {"d", "no", "f"}, {"d", "e", "deep", "no", "x", "y"}, deep(64), {longName(64), "x"}, {"D", "f"}},
	}
	f, s := sample(t)
	for e, paths := range wants {
		for _, p := range paths {
			for _, c := range eachCall(p) {
				if got := c.on(f); got != c.none(e) {
					t.Errorf("%v = %v, want %d", c, got, e)
				}
			}
			// Also ahead of what is wrong with the other arguments.
			for _, c := range []call{{fn: "Write", p: p, at: -1}, {fn: "Truncate", p: p, at: -1}, {fn: "Read", p: p, at: -1}, {fn: "Rename", p: p, q: nil}, {fn: "Replace", p: p, b: make([]byte, 65537)}} {
				if got := c.on(f); got.e != e {
					t.Errorf("%v = %v, want %d", c, got, e)
				}
			}
			if got := (call{fn: "Rename", p: to("d"), q: p}).on(f); got.e != e {
				t.Errorf("Rename to %.40q = %d, want %d", p, got.e, e)
			}
		}
	}
	wantState(t, f, s)
}

func TestPathsOfSixtyFourNames(t *testing.T) { // P11.2
	_, f := made(t, blocksOf(400))
	s := empty()
	var p []string
	for len(p) < 63 {
		p = append(p, longName(1+len(p)))
		s = must(t, f, s, call{fn: "Mkdir", p: p})
	}
	file, dir := in(p, "f"), in(p, "d")
	s = must(t, f, s, call{fn: "Replace", p: file, b: []byte("deep")}, call{fn: "Mkdir", p: dir}, call{fn: "Write", p: file, at: 2, b: []byte("EP")})
	for _, p := range [][]string{in(file, "x"), in(dir, "x")} {
		for _, c := range eachCall(p) {
			if got := c.on(f); got != c.none(api.EINVAL) {
				t.Errorf("%v = %v", c, got)
			}
		}
		if got := (call{fn: "Rename", p: file, q: p}).on(f); got.e != api.EINVAL {
			t.Errorf("Rename = %d", got.e)
		}
	}
	wantState(t, f, s)
}

// chain makes directories of one name, one in the other, and gives the path of the last one.
func chain(t *testing.T, f *FS, name string, depth int) []string {
	t.Helper()
	p := slices.Repeat([]string{name}, depth)
	for i := range p {
		if e := f.Mkdir(p[:i+1]); e != api.OK {
			t.Fatalf("Mkdir = %d", e)
		}
	}
	return p
}

func in(p []string, name string) []string { return append(slices.Clone(p), name) }

func TestTreesDeeperThanAPath(t *testing.T) { // P11.2: what a Rename brings behind the 64th name is not lost
	d, f := made(t, blocksOf(400))
	a, b := chain(t, f, "a", 40), chain(t, f, "b", 40)
	f.Replace(in(a, "f"), []byte("deep"))
	cost := f.Cost()
	if e := f.Rename(to("a"), in(b, "a")); e != 0 || f.Cost() != cost+1 {
		t.Fatalf("Rename = %d, Cost %d, want %d", e, f.Cost(), cost+1)
	}
	wantWhole(t, f)
	f = mounted(t, d.Crash(func(int) bool { return true }))
	if e := f.Rename(in(b, "a"), to("a")); e != 0 || f.Cost() != cost {
		t.Fatalf("Rename = %d, Cost %d, want %d", e, f.Cost(), cost)
	}
	if b, e := f.Read(in(a, "f"), 0, 9); string(b) != "deep" || e != 0 {
		t.Errorf("Read = %q, %d", b, e)
	}
}

func TestMkdirAndCreate(t *testing.T) { // P11.2
	wantCalls(t, []wanted{
		{mkdir("x"), 0}, {create("x"), 0}, {mkdir("d/e/deep/x"), 0}, {create("d/e/deep/x"), 0}, {mkdir(longName(64)), 0}, {create("\xff\xfe"), 0}, {create("..."), 0},
		{mkdir(""), api.EEXIST}, {create(""), api.EEXIST}, {mkdir("d"), api.EEXIST}, {create("d"), api.EEXIST}, {mkdir("g"), api.EEXIST}, {create("g"), api.EEXIST}, {create("d/f"), api.EEXIST},
	})
}

func TestWrite(t *testing.T) { // P11.2
	big := strings.Repeat("0123456", 9363)[:65536]
	wantCalls(t, []wanted{
		{write("d/f", 0, "J"), 0}, {write("d/f", 3, "abc"), 0}, {write("d/f", 5, "!"), 0}, {write("d/f", 700, "far"), 0}, {write("none", 60000, "x"), 0}, {write("none", 65535, "x"), 0}, {write("g", 500, strings.Repeat("-", 600)), 0},
		{write("none", 0, big), 0}, {write("none", 1, big[:65535]), 0}, {write("g", 65536, ""), 0}, {write("g", 9999, ""), 0}, {write("none", 0, ""), 0}, {write("d/f", 1, "ell"), 0}, {write("none", 0, "\x00"), 0},
		{write("g", -1, "x"), api.EINVAL}, {write("g", math.MinInt, ""), api.EINVAL}, {write("no", -1, "x"), api.EINVAL}, {write("d", -1, ""), api.EINVAL}, {write("", -1, ""), api.EINVAL},
		{write("no", 0, "x"), api.ENOENT}, {write("no", 0, ""), api.ENOENT}, {write("d/no", 65537, "x"), api.ENOENT},
		{write("d", 0, "x"), api.EISDIR}, {write("", 0, "x"), api.EISDIR}, {write("d", 65536, "x"), api.EISDIR}, {write("empty", 0, ""), api.EISDIR},
		{write("g", 65536, "x"), api.EFBIG}, {write("g", 65535, "xy"), api.EFBIG}, {write("g", 65537, ""), api.EFBIG}, {write("g", math.MaxInt, ""), api.EFBIG}, {write("g", math.MaxInt, "xyz"), api.EFBIG}, {write("g", 0, big+"x"), api.EFBIG}, {write("g", 1, big), api.EFBIG},
	})
}

func TestTruncate(t *testing.T) { // P11.2
	wantCalls(t, []wanted{
		{truncate("g", 0), 0}, {truncate("g", 1), 0}, {truncate("g", 512), 0}, {truncate("g", 1999), 0}, {truncate("g", 2000), 0}, {truncate("g", 2001), 0}, {truncate("g", 5000), 0}, {truncate("g", 65536), 0}, {truncate("none", 0), 0}, {truncate("none", 1), 0},
		{truncate("g", -1), api.EINVAL}, {truncate("g", math.MinInt), api.EINVAL}, {truncate("no", -1), api.EINVAL}, {truncate("d", -1), api.EINVAL},
		{truncate("no", 0), api.ENOENT}, {truncate("no", 65537), api.ENOENT}, {truncate("d/e/no", 1), api.ENOENT},
		{truncate("d", 0), api.EISDIR}, {truncate("", 0), api.EISDIR}, {truncate("d", 65537), api.EISDIR},
		{truncate("g", 65537), api.EFBIG}, {truncate("g", math.MaxInt), api.EFBIG},
	})
}

func TestBytesBehindASizeThatGrowsAgain(t *testing.T) { // P11.2
	d, f := made(t, blocksOf(300))
	s := must(t, f, empty(), replace("f", strings.Repeat("x", 6000)), truncate("f", 700), truncate("f", 6000), write("f", 6500, "y"), truncate("f", 65536), truncate("f", 10), write("f", 20, "z"))
	wantState(t, f, s)
	wantState(t, mounted(t, d), s)
}

func TestReplace(t *testing.T) { // P11.2
	big := strings.Repeat("0123456", 9363)[:65536]
	wantCalls(t, []wanted{
		{replace("x", "new"), 0}, {replace("x", ""), 0}, {replace("d/e/x", big), 0}, {replace("g", "short"), 0}, {replace("g", ""), 0}, {replace("g", big), 0}, {replace("d/f", "hello"), 0}, {replace("d/f", "hello!"), 0}, {replace("d/f", "hell"), 0}, {replace("none", ""), 0}, {replace("none", "\x00"), 0},
		{replace("", "x"), api.EISDIR}, {replace("d", "x"), api.EISDIR}, {replace("empty", ""), api.EISDIR}, {replace("d", big+"x"), api.EISDIR},
		{replace("g", big+"x"), api.EFBIG}, {replace("x", big+"x"), api.EFBIG}, {replace("d/e/x", big+big), api.EFBIG},
	})
}

func TestRead(t *testing.T) { // P11.2
	wantCalls(t, []wanted{
		{readAt("d/f", 0, 5), 0}, {readAt("d/f", 0, 4), 0}, {readAt("d/f", 1, 3), 0}, {readAt("d/f", 2, 99), 0}, {readAt("d/f", 4, 1), 0}, {readAt("d/f", 5, 1), 0}, {readAt("d/f", 6, 1), 0}, {readAt("d/f", 0, 0), 0}, {readAt("g", 500, 600), 0},
		{readAt("d/f", math.MaxInt, math.MaxInt), 0}, {readAt("d/f", 0, math.MaxInt), 0}, {readAt("d/f", 4, math.MaxInt), 0}, {readAt("none", 0, 9), 0},
		{readAt("g", -1, 1), api.EINVAL}, {readAt("g", 0, -1), api.EINVAL}, {readAt("g", math.MinInt, math.MinInt), api.EINVAL}, {readAt("no", -1, 0), api.EINVAL}, {readAt("d", 0, -1), api.EINVAL},
		{readAt("no", 0, 0), api.ENOENT}, {readAt("d/e/no", 0, 1), api.ENOENT}, {readAt("d", 0, 0), api.EISDIR}, {readAt("", 0, 9), api.EISDIR},
	})
}

func TestRemove(t *testing.T) { // P11.2
	wantCalls(t, []wanted{
		{remove("d/f"), 0}, {remove("g"), 0}, {remove("none"), 0}, {remove("empty"), 0}, {remove("d/e/deep"), 0},
		{remove(""), api.EBUSY}, {remove("no"), api.ENOENT}, {remove("d/e/deep/no"), api.ENOENT}, {remove("d"), api.ENOTEMPTY}, {remove("d/e"), api.ENOTEMPTY},
	})
	d, f := made(t, 400)
	must(t, f, empty(), mkdir("d"), create("d/f"), remove("d/f"), remove("d"))
	for _, c := range []call{remove("d/f"), remove("d"), readAt("d", 0, 1)} {
		if got := c.on(f); got.e != api.ENOENT {
			t.Errorf("%v = %d", c, got.e)
		}
	}
	if e := f.Remove(nil); e != api.EBUSY {
		t.Errorf("Remove of an empty root = %d", e)
	}
	wantState(t, mounted(t, d), empty())
}

func TestRename(t *testing.T) { // P11.2
	wantCalls(t, []wanted{
		{rename("g", "h"), 0}, {rename("g", "d/g"), 0}, {rename("d/f", "f"), 0}, {rename("g", "d/f"), 0}, {rename("d/f", "g"), 0}, {rename("d", "x"), 0}, {rename("d/e", "e"), 0}, {rename("d", "empty"), 0}, {rename("empty", "d/e/deep"), 0}, {rename("d/e/deep", "empty"), 0}, {rename("d/e", "empty/e"), 0}, {rename("none", "d/e/deep/none"), 0}, {rename("d/e", "d/ee"), 0}, {rename("d/e", "de"), 0},
		// Onto itself, nothing.
		{rename("g", "g"), 0}, {rename("d", "d"), 0}, {rename("d/e/deep", "d/e/deep"), 0},
		{rename("", "x"), api.EBUSY}, {rename("x", ""), api.EBUSY}, {rename("", ""), api.EBUSY}, {rename("no", ""), api.EBUSY}, {rename("", "no/x"), api.EBUSY}, {rename("", "."), api.EBUSY}, {rename("g", ""), api.EBUSY}, {rename("", longName(65)), api.EBUSY},
		{rename("no", "x"), api.ENOENT}, {rename("no", "no"), api.ENOENT}, {rename("no", "."), api.ENOENT}, {rename("no", "g/x"), api.ENOENT}, {rename("no", longName(65)), api.ENOENT}, {rename("d/no", "d/no/x"), api.ENOENT},
		{rename("no/x", ""), api.ENOENT}, {rename("g/x", ""), api.ENOTDIR}, {rename(".", ""), api.EINVAL}, {rename(longName(65), "."), api.ENAMETOOLONG}, {rename(".", longName(65)), api.EINVAL},
		{rename("g", "no/x"), api.ENOENT}, {rename("g", "d/f/x"), api.ENOTDIR}, {rename("g", "."), api.EINVAL}, {rename("g", "d/"+longName(65)), api.ENAMETOOLONG}, {rename("g", strings.Repeat("d/", 64)+"d"), api.EINVAL},
		{rename("d", "d/x"), api.EINVAL}, {rename("d", "d/e"), api.EINVAL}, {rename("d", "d/f"), api.EINVAL}, {rename("d", "d/e/deep/x"), api.EINVAL}, {rename("d/e", "d/e/x"), api.EINVAL},
		// What is wrong with q's path comes ahead of that.
		{rename("d", "d/no/x"), api.ENOENT}, {rename("d", "d/f/x"), api.ENOTDIR}, {rename("g", "g/x"), api.ENOTDIR}, {rename("d", "d/."), api.EINVAL}, {rename("d", "d/"+longName(65)), api.ENAMETOOLONG},
		{rename("g", "d"), api.EISDIR}, {rename("g", "empty"), api.EISDIR}, {rename("d/f", "d"), api.EISDIR}, {rename("d", "g"), api.ENOTDIR}, {rename("empty", "d/f"), api.ENOTDIR},
		{rename("empty", "d"), api.ENOTEMPTY}, {rename("d/e/deep", "d/e"), api.ENOTEMPTY}, {rename("d/e", "d"), api.ENOTEMPTY}, {rename("d/e/deep", "d"), api.ENOTEMPTY},
	})
}

func TestWhatWasRenamedGoesOn(t *testing.T) { // P11.2
	d, f := made(t, 600)
	s := must(t, f, empty(), mkdir("a"), mkdir("a/b"), replace("a/b/f", "one"), mkdir("c"), rename("a/b", "c/x"), write("c/x/f", 3, " two"), create("a/b"), replace("t", "onto"), rename("t", "c/x/f"), mkdir("c/y"), rename("c/x", "c/y"), create("c/x"), rename("a", "c/y/a"), replace("c/y/a/b", "new"))
	wantState(t, f, s)
	wantWhole(t, f)
	wantState(t, mounted(t, d), s)
	if b, _ := f.Read(to("c/y/f"), 0, 9); string(b) != "onto" {
		t.Errorf("Read = %q", b)
	}
}

func TestList(t *testing.T) { // P11.2
	wantCalls(t, []wanted{
		{list(""), 0}, {list("d"), 0}, {list("empty"), 0}, {list("d/e/deep"), 0},
		{list("no"), api.ENOENT}, {list("d/e/no"), api.ENOENT}, {list("g"), api.ENOTDIR}, {list("d/f"), api.ENOTDIR},
	})
	_, f := made(t, 600)
	names := []string{"\x01", "\x7f", "\x80", "\xff", "A", "a", "a ", "aa", "B", "ab", "é", "10", "9", "z"}
	for i, name := range names {
		if i%2 == 0 {
			f.Mkdir([]string{name})
		} else {
			f.Replace([]string{name}, make([]byte, i))
		}
	}
	sorted := slices.Sorted(slices.Values(names))
	l, e := f.List(nil)
	if e != 0 || len(l) != len(names) {
		t.Fatalf("List = %v, %d", l, e)
	}
	for i, x := range l {
		k := slices.Index(names, sorted[i])
		if want := (api.Entry{Name: sorted[i], Dir: k%2 == 0, Size: k % 2 * k}); x != want {
			t.Errorf("%v, want %v", x, want)
		}
	}
}

func TestStat(t *testing.T) { // P11.2
	wantCalls(t, []wanted{{stat(""), 0}, {stat("d"), 0}, {stat("d/f"), 0}, {stat("g"), 0}, {stat("none"), 0}, {stat("empty"), 0}, {stat("no"), api.ENOENT}, {stat("d/no"), api.ENOENT}})
	f, _ := sample(t)
	if s, e := f.Stat(to("g")); s != (api.Stat{Size: 2000}) || e != 0 {
		t.Errorf("Stat = %v, %d", s, e)
	}
	if s, e := f.Stat(to("d")); s != (api.Stat{Dir: true}) || e != 0 {
		t.Errorf("Stat = %v, %d", s, e)
	}
}

package localdir

import (
	"fmt"
	"maps"
	"math"
	"slices"
	"strings"
	"testing"

	"lagoon/api"
)

// odd are names that are no ordinary ones, but Fine.
var odd = []string{"...", "....", ".a", "a.", "..a", " ", "\x01", "\n", "\\", "\x7f", "\x80", "\xff", "\xff\xfe", "é", "日本", "\xc0\xaf", strings.Repeat("x", 64), strings.Repeat("\xff", 64)}

// notFine are names that no directory may have, with what Fine says of them.
var notFine = map[string]api.Errno{
	"": api.EINVAL, ".": api.EINVAL, "..": api.EINVAL,
	"\x00": api.EINVAL, "/": api.EINVAL, "\x00\x00": api.EINVAL, "//": api.EINVAL, "/..": api.EINVAL, "../": api.EINVAL,
	"\x00ab": api.EINVAL, "a\x00b": api.EINVAL, "ab\x00": api.EINVAL,
	"/ab": api.EINVAL, "a/b": api.EINVAL, "ab/": api.EINVAL,
	"\xff/": api.EINVAL, "\xe2\x00\x80": api.EINVAL,
	strings.Repeat("x", 63) + "\x00":                           api.EINVAL,
	strings.Repeat("x", 63) + "/":                              api.EINVAL,
	strings.Repeat("x", 65):                                    api.ENAMETOOLONG,
	strings.Repeat("\xff", 65):                                 api.ENAMETOOLONG,
	strings.Repeat(".", 65):                                    api.ENAMETOOLONG,
	strings.Repeat("é", 33):                                    api.ENAMETOOLONG,
	strings.Repeat("x", 1<<20):                                 api.ENAMETOOLONG,
	"\x00" + strings.Repeat("x", 64):                           api.EINVAL,
	"/" + strings.Repeat("x", 64):                              api.EINVAL,
	strings.Repeat("x", 32) + "\x00" + strings.Repeat("x", 32): api.EINVAL,
	strings.Repeat("x", 32) + "/" + strings.Repeat("x", 32):    api.EINVAL,
	strings.Repeat("x", 64) + "\x00":                           api.EINVAL,
	strings.Repeat("x", 64) + "/":                              api.EINVAL,
	strings.Repeat("x", 1<<20) + "/":                           api.EINVAL,
}

// goodNumbers and badNumbers are the edges of what a name may have.
var (
	goodNumbers = []int{1, 2, 127, 128, 1<<31 - 2, 1<<31 - 1}
	badNumbers  = []int{math.MinInt, -1 << 31, -1, 0, 1 << 31, 1<<32 + 1, 1 << 62, math.MaxInt}
)

// entries are what a directory is to hold.
type entries map[string]int

// gathered is what Each asked for, in its order.
type gathered []entry

func (g *gathered) add(name string, n int) { *g = append(*g, entry{name, n}) }

// sorted gives the entries in the order of their names' bytes.
func (want entries) sorted() gathered {
	var g gathered
	for _, name := range slices.Sorted(maps.Keys(want)) {
		g.add(name, want[name])
	}
	return g
}

// numbered gives n names of 64 bytes with numbers.
func numbered(n int) entries {
	all := entries{}
	for i := range n {
		all[fmt.Sprintf("%064d", i*7919)] = i + 1
	}
	return all
}

// made gives a directory of the entries.
func made(t *testing.T, all entries) *Dir {
	t.Helper()
	d := New()
	for name, n := range all {
		mustPut(t, d, name, n)
	}
	return d
}

func mustPut(t *testing.T, d *Dir, name string, n int) {
	t.Helper()
	if e := d.Put(name, n); e != api.OK {
		t.Fatalf("Put(%q, %d) = %d", name, n, e)
	}
}

func mustDrop(t *testing.T, d *Dir, name string) {
	t.Helper()
	if e := d.Drop(name); e != api.OK {
		t.Fatalf("Drop(%q) = %d", name, e)
	}
}

func wantPut(t *testing.T, d *Dir, name string, n int, want api.Errno) {
	t.Helper()
	if e := d.Put(name, n); e != want {
		t.Errorf("Put(%.80q, %d) = %d, want %d", name, n, e, want)
	}
}

func wantDrop(t *testing.T, d *Dir, name string, want api.Errno) {
	t.Helper()
	if e := d.Drop(name); e != want {
		t.Errorf("Drop(%.80q) = %d, want %d", name, e, want)
	}
}

func wantGet(t *testing.T, d *Dir, name string, want int, wantOk bool) {
	t.Helper()
	if n, ok := d.Get(name); n != want || ok != wantOk {
		t.Errorf("Get(%.80q) = %d, %v; want %d, %v", name, n, ok, want, wantOk)
	}
}

// wantDir holds Len, Get, List, Each and the count of blocks against what the directory is to hold.
func wantDir(t *testing.T, d *Dir, want entries) {
	t.Helper()
	sorted := want.sorted()
	var names []string
	for _, e := range sorted {
		names = append(names, e.name)
		wantGet(t, d, e.name, e.number, true)
	}
	if d.Len() != len(want) {
		t.Errorf("Len = %d, want %d", d.Len(), len(want))
	}
	if l := d.List(); !slices.Equal(l, names) {
		t.Errorf("List = %.300q, want %.300q", l, names)
	}
	var g gathered
	d.Each(g.add)
	if !slices.Equal(g, sorted) {
		t.Errorf("Each asked for %v, want %v", g, sorted)
	}
	if size := len(d.Bytes()); size%512 != 0 || size/512 > (len(want)+3)/4+1 {
		t.Errorf("Bytes of %d names are %d", len(want), size)
	}
}

func TestFine(t *testing.T) { // P10.1
	for _, name := range append([]string{"a", "ab", "a b", "A.txt", strings.Repeat("x", 63)}, odd...) {
		if e := Fine(name); e != api.OK {
			t.Errorf("Fine(%q) = %d", name, e)
		}
	}
	for name, want := range notFine {
		if e := Fine(name); e != want {
			t.Errorf("Fine(%.80q) of %d bytes = %d, want %d", name, len(name), e, want)
		}
	}
}

func TestFineOfEachByte(t *testing.T) { // P10.1
	for i := range 256 {
		x := string([]byte{byte(i)})
		for _, name := range []string{x, x + "ab", "a" + x + "b", "ab" + x, strings.Repeat("y", 63) + x} {
			want := api.OK
			if i == 0 || i == '/' || name == "." {
				want = api.EINVAL
			}
			if e := Fine(name); e != want {
				t.Errorf("Fine(%q) = %d, want %d", name, e, want)
			}
		}
	}
}

func TestANewDirectoryHasNoNames(t *testing.T) { // P10.1
	d := New()
	if d == nil {
		t.Fatal("New is nil")
	}
	wantDir(t, d, nil)
	wantGet(t, d, "a", 0, false)
	wantDrop(t, d, "a", api.ENOENT)
	wantDir(t, d, nil)
}

func TestPutOfNewNames(t *testing.T) { // P10.1
	d, want := New(), entries{}
	for i, name := range append([]string{"b", "a", "c"}, odd...) {
		wantGet(t, d, name, 0, false)
		wantPut(t, d, name, i+1, api.OK)
		want[name] = i + 1
		wantDir(t, d, want)
	}
}

func TestPutOfANameThatIsThere(t *testing.T) { // P10.1
	d := made(t, entries{"a": 1, "b": 2, "c": 3})
	for _, n := range slices.Concat(goodNumbers, []int{2, 2}) {
		wantPut(t, d, "b", n, api.OK)
		wantDir(t, d, entries{"a": 1, "b": n, "c": 3})
	}
}

func TestPutOfNumbers(t *testing.T) { // P10.1, P0.2
	for _, n := range goodNumbers {
		d := New()
		wantPut(t, d, "a", n, api.OK)
		wantDir(t, d, entries{"a": n})
	}
	for _, n := range badNumbers {
		d := New()
		wantPut(t, d, "a", n, api.EINVAL)
		wantDir(t, d, nil)
		if len(d.Bytes()) != 0 {
			t.Error("a directory that never held a name has blocks")
		}
		d = made(t, entries{"a": 7})
		wantPut(t, d, "a", n, api.EINVAL)
		wantPut(t, d, "b", n, api.EINVAL)
		wantDir(t, d, entries{"a": 7})
	}
}

func TestNamesThatAreNotFine(t *testing.T) { // P10.1, P0.2
	for name, want := range notFine {
		for _, all := range []entries{{}, {"a": 1, "...": 2, strings.Repeat("x", 64): 3}} {
			d := made(t, all)
			// The name's error comes ahead of the number's.
			for _, n := range slices.Concat(goodNumbers, badNumbers) {
				wantPut(t, d, name, n, want)
			}
			wantGet(t, d, name, 0, false)
			wantDrop(t, d, name, api.ENOENT)
			wantDir(t, d, all)
		}
	}
}

func TestDrop(t *testing.T) { // P10.1
	d := made(t, entries{"a": 1, "ab": 2, "b": 3})
	wantDrop(t, d, "c", api.ENOENT)
	wantDrop(t, d, "abc", api.ENOENT)
	wantDir(t, d, entries{"a": 1, "ab": 2, "b": 3})
	wantDrop(t, d, "ab", api.OK)
	wantGet(t, d, "ab", 0, false)
	wantDir(t, d, entries{"a": 1, "b": 3})
	for range 2 {
		wantDrop(t, d, "ab", api.ENOENT)
		wantDir(t, d, entries{"a": 1, "b": 3})
	}
	wantPut(t, d, "ab", 9, api.OK)
	wantDir(t, d, entries{"a": 1, "ab": 9, "b": 3})
	for _, name := range []string{"b", "ab", "a"} {
		wantDrop(t, d, name, api.OK)
		wantDrop(t, d, name, api.ENOENT)
		wantGet(t, d, name, 0, false)
	}
	wantDir(t, d, nil)
	wantPut(t, d, "b", 4, api.OK)
	wantDir(t, d, entries{"b": 4})
}

func TestTheOrderOfNames(t *testing.T) { // P10.1
	d := New()
	for i, name := range []string{"b", "\xff", "aa", "B", "é", "a", "ab", "\x01", "a\x01", "aaa", "~", "10", "9", "\x80", "a\xff"} {
		mustPut(t, d, name, i+1)
	}
	want := []string{"\x01", "10", "9", "B", "a", "a\x01", "aa", "aaa", "ab", "a\xff", "b", "~", "\x80", "é", "\xff"}
	if l := d.List(); !slices.Equal(l, want) {
		t.Errorf("List = %q, want %q", l, want)
	}
	var g gathered
	d.Each(g.add)
	if len(g) != len(want) {
		t.Fatalf("Each asked for %d names", len(g))
	}
	for i, e := range g {
		if n, ok := d.Get(e.name); e.name != want[i] || !ok || n != e.number {
			t.Errorf("Each asked for %q, %d; want %q, %d", e.name, e.number, want[i], n)
		}
	}
}

func TestNamesInAnyOrderOfComing(t *testing.T) { // P10.1
	all := numbered(60)
	names := all.sorted()
	for _, order := range []func(i int) int{
		func(i int) int { return i },
		func(i int) int { return 59 - i },
		func(i int) int { return i * 7 % 60 },
		func(i int) int { return i ^ 1 },
	} {
		d := New()
		for i := range names {
			e := names[order(i)]
			mustPut(t, d, e.name, e.number)
		}
		wantDir(t, d, all)
	}
}

func TestEachOfNil(t *testing.T) { // P10.1, P0.7
	d := made(t, entries{"a": 1, "b": 2})
	d.Each(nil)
	New().Each(nil)
	wantDir(t, d, entries{"a": 1, "b": 2})
}

func TestEachOfOneThatPanics(t *testing.T) { // P10.1, P0.1
	d := made(t, entries{"a": 1, "b": 2, "c": 3})
	var g gathered
	d.Each(func(name string, n int) {
		g.add(name, n)
		panic(name)
	})
	if !slices.Equal(g, gathered{{"a", 1}, {"b", 2}, {"c", 3}}) {
		t.Errorf("Each asked for %v", g)
	}
	wantDir(t, d, entries{"a": 1, "b": 2, "c": 3})
}

func TestEachOfOneThatCallsTheDirectory(t *testing.T) { // P10.1, P0.1
	all := numbered(40)
	d := made(t, all)
	var g gathered
	d.Each(func(name string, n int) {
		g.add(name, n)
		mustDrop(t, d, name)
		mustPut(t, d, "z"+name[1:], n)
		mustPut(t, d, "!"+name[1:], n)
	})
	if !slices.Equal(g, all.sorted()) {
		t.Errorf("Each asked for %v", g)
	}
	want := entries{}
	for name, n := range all {
		want["z"+name[1:]], want["!"+name[1:]] = n, n
	}
	wantDir(t, d, want)
}

func TestAFullDirectory(t *testing.T) { // P10.1, P0.2
	all := numbered(2048)
	d := made(t, all)
	wantDir(t, d, all)
	for range 2 {
		wantPut(t, d, "x", 1, api.ENOSPC)
		wantPut(t, d, strings.Repeat("x", 64), 1<<31-1, api.ENOSPC)
	}
	// The other errors come ahead of it.
	wantPut(t, d, "x", 0, api.EINVAL)
	wantPut(t, d, "x/", 1, api.EINVAL)
	wantPut(t, d, strings.Repeat("x", 65), 1, api.ENAMETOOLONG)
	wantGet(t, d, "x", 0, false)
	wantDrop(t, d, "x", api.ENOENT)
	wantDir(t, d, all)

	some := all.sorted()[1000].name
	wantPut(t, d, some, 12345, api.OK)
	all[some] = 12345
	wantDir(t, d, all)

	wantDrop(t, d, some, api.OK)
	wantPut(t, d, "x", 6, api.OK)
	wantPut(t, d, some, 6, api.ENOSPC)
	delete(all, some)
	all["x"] = 6
	wantDir(t, d, all)
}

func TestLenBehindEachCall(t *testing.T) { // P10.1
	d := New()
	names := numbered(500).sorted()
	for i, e := range names {
		mustPut(t, d, e.name, 1)
		mustPut(t, d, e.name, 2)
		if d.Len() != i+1 {
			t.Fatalf("Len = %d behind %d names", d.Len(), i+1)
		}
	}
	for i := range names {
		mustDrop(t, d, names[i*3%500].name)
		wantDrop(t, d, names[i*3%500].name, api.ENOENT)
		if d.Len() != 499-i {
			t.Fatalf("Len = %d, want %d", d.Len(), 499-i)
		}
	}
	wantDir(t, d, nil)
}

func TestListsAreTheCallersOwn(t *testing.T) { // P10.3, P0.3
	all := entries{"a": 1, "b": 2, "c": 3, "d": 4, "e": 5}
	d := made(t, all)
	first, second := d.List(), d.List()
	first = first[:cap(first)]
	for i := range first {
		first[i] = "spoilt"
	}
	if !slices.Equal(second, []string{"a", "b", "c", "d", "e"}) {
		t.Errorf("two lists share memory: %q", second)
	}
	wantDir(t, d, all)
}

func TestTwoDirectoriesKnowNothingOfEachOther(t *testing.T) { // P0.5
	a, b := New(), New()
	mustPut(t, a, "a", 1)
	wantDir(t, b, nil)
	mustPut(t, b, "a", 2)
	mustPut(t, b, "b", 3)
	wantDir(t, a, entries{"a": 1})
	mustDrop(t, a, "a")
	wantDir(t, b, entries{"a": 2, "b": 3})

	image := made(t, numbered(30)).Bytes()
	c, d := mustLoad(t, image), mustLoad(t, image)
	for name := range numbered(30) {
		mustDrop(t, c, name)
	}
	wantDir(t, c, nil)
	wantDir(t, d, numbered(30))
}

func TestNoDirectory(t *testing.T) { // P10.3, P0.1
	var d *Dir
	wantDir(t, d, nil)
	d.Each(func(string, int) { t.Error("Each of nil asked for a name") })
	d.Each(nil)
	if len(d.Bytes()) != 0 || len(d.List()) != 0 {
		t.Errorf("Bytes, List of nil = %x, %q", d.Bytes(), d.List())
	}
	names := append(slices.Collect(maps.Keys(notFine)), odd...)
	for _, name := range append(names, "a", "b") {
		wantGet(t, d, name, 0, false)
		wantDrop(t, d, name, api.ENOENT)
		for _, n := range slices.Concat(goodNumbers, badNumbers) {
			wantPut(t, d, name, n, api.EINVAL)
		}
		wantGet(t, d, name, 0, false)
	}
	wantDir(t, d, nil)
}

func TestAZeroDirectoryIsANewOne(t *testing.T) { // P0.1
	d := &Dir{}
	wantDir(t, d, nil)
	wantDrop(t, d, "a", api.ENOENT)
	wantPut(t, d, "a", 1, api.OK)
	wantDir(t, d, entries{"a": 1})
}

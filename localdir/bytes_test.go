package localdir

import (
	"bytes"
	"fmt"
	"maps"
	"slices"
	"strings"
	"testing"

	"lagoon/api"
)

func mustLoad(t *testing.T, b []byte) *Dir {
	t.Helper()
	d, e := Load(b)
	if e != api.OK || d == nil {
		t.Fatalf("Load of %d bytes = a directory of %d names, %d", len(b), d.Len(), e)
	}
	return d
}

func wantNotLoaded(t *testing.T, b []byte, why string) {
	t.Helper()
	if d, e := Load(b); d != nil || e != api.EBADMSG {
		t.Errorf("Load of %s = a directory of %d names, %d; want nil, %d", why, d.Len(), e, api.EBADMSG)
	}
}

// plainNum writes a number with seven bits a byte.
func plainNum(n int) []byte {
	if n < 128 {
		return []byte{byte(n)}
	}
	return append([]byte{byte(n%128 + 128)}, plainNum(n/128)...)
}

// plainBlock writes a block: how many blocks there are, how many names here, the names with their numbers, zeros.
func plainBlock(blocks, count int, list ...entry) []byte {
	b := append(plainNum(blocks), plainNum(count)...)
	for _, e := range list {
		b = append(append(append(b, plainNum(len(e.name))...), e.name...), plainNum(e.number)...)
	}
	return append(b, make([]byte, 512-len(b))...)
}

// blockOf writes the one block of just these entries.
func blockOf(list ...entry) []byte { return plainBlock(1, len(list), list...) }

func TestBytesOfNoNames(t *testing.T) { // P10.2
	if b := New().Bytes(); len(b) != 0 {
		t.Errorf("Bytes of a new directory are %d", len(b))
	}
	d := New()
	mustPut(t, d, "a", 1)
	mustDrop(t, d, "a")
	b := d.Bytes()
	if len(b) != 0 && len(b) != 512 {
		t.Errorf("Bytes of a directory that holds no name any more are %d", len(b))
	}
	wantDir(t, mustLoad(t, b), nil)
	d = made(t, numbered(300))
	for name := range numbered(300) {
		mustDrop(t, d, name)
	}
	if b = d.Bytes(); len(b) != 0 && len(b) != 512 {
		t.Errorf("Bytes of a directory that holds none of 300 names any more are %d", len(b))
	}
	wantDir(t, mustLoad(t, b), nil)
}

func TestHowManyBlocks(t *testing.T) { // P10.2
	for _, n := range []int{1, 3, 4, 5, 8, 9, 100, 2047, 2048} {
		b := made(t, numbered(n)).Bytes()
		if len(b) == 0 || len(b)%512 != 0 || len(b)/512 > (n+3)/4+1 {
			t.Errorf("Bytes of %d names are %d", n, len(b))
		}
		wantDir(t, mustLoad(t, b), numbered(n))
	}
}

func TestHowManyBlocksAtEachCount(t *testing.T) { // P10.2
	d := New()
	names := numbered(2048).sorted()
	check := func(n int) {
		t.Helper()
		b := d.Bytes()
		if d.Len() != n || len(b)/512 > (n+3)/4+1 {
			t.Fatalf("%d names, want %d, in %d blocks", d.Len(), n, len(b)/512)
		}
		if n%97 == 0 && mustLoad(t, b).Len() != n {
			t.Fatalf("Load of %d names gives others", n)
		}
	}
	for i, e := range names {
		mustPut(t, d, e.name, 1<<31-1)
		check(i + 1)
	}
	for i := range names {
		mustDrop(t, d, names[i*5%2048].name)
		check(2047 - i)
	}
}

func TestLoadAnswersAsTheDirectoryDid(t *testing.T) { // P10.2
	for _, n := range []int{0, 1, 4, 5, 31, 300, 2048} {
		all := numbered(n)
		d := made(t, all)
		l := mustLoad(t, d.Bytes())
		wantDir(t, l, all)
		wantGet(t, l, "new", 0, false)
		wantDrop(t, l, "new", api.ENOENT)
		wantPut(t, l, "new", 5, d.Put("new", 5))
		for i, name := range d.List() {
			if i%3 == 0 {
				mustDrop(t, d, name)
				mustDrop(t, l, name)
			} else if i%3 == 1 {
				mustPut(t, d, name, i+9)
				mustPut(t, l, name, i+9)
			}
		}
		mustPut(t, d, "newer", 6)
		mustPut(t, l, "newer", 6)
		var g, h gathered
		d.Each(g.add)
		l.Each(h.add)
		if !slices.Equal(g, h) {
			t.Errorf("of %d names: the directory and the loaded one went apart", n)
		}
		wantDir(t, mustLoad(t, l.Bytes()), entriesOf(d))
	}
}

// entriesOf gives what Each asks for.
func entriesOf(d *Dir) entries {
	all := entries{}
	d.Each(func(name string, n int) { all[name] = n })
	return all
}

func TestLoadOfOddNamesAndNumbers(t *testing.T) { // P10.2
	all := entries{}
	for i, name := range odd {
		all[name] = goodNumbers[i%len(goodNumbers)]
	}
	wantDir(t, mustLoad(t, made(t, all).Bytes()), all)
}

func TestLoadOfLengths(t *testing.T) { // P10.2, P0.4
	wantDir(t, mustLoad(t, nil), nil)
	wantDir(t, mustLoad(t, []byte{}), nil)
	b := made(t, numbered(30)).Bytes()
	for _, n := range []int{1, 2, 511, 513, 1023, len(b) - 1} {
		wantNotLoaded(t, b[:n], fmt.Sprint(n, " bytes of a directory"))
		wantNotLoaded(t, make([]byte, n), fmt.Sprint(n, " zeros"))
	}
	wantNotLoaded(t, append(slices.Clone(b), 0), "a byte more")
	for n := 512; n < len(b); n += 512 {
		wantNotLoaded(t, b[:n], "fewer blocks")
		wantNotLoaded(t, b[n:], "the later blocks")
	}
	wantNotLoaded(t, append(slices.Clone(b), make([]byte, 512)...), "a block of zeros more")
	wantNotLoaded(t, append(make([]byte, 512), b...), "a block of zeros ahead")
	// No directory gives blocks without a name, for one without names has no blocks.
	for _, n := range []int{512, 1024, 512 * 2048} {
		wantNotLoaded(t, make([]byte, n), fmt.Sprint(n, " zeros"))
		wantNotLoaded(t, bytes.Repeat([]byte{0xff}, n), fmt.Sprint(n, " bytes 255"))
		wantNotLoaded(t, bytes.Repeat([]byte{1}, n), fmt.Sprint(n, " ones"))
	}
}

func TestLoadOfAPlainBlock(t *testing.T) { // P10.2
	wantDir(t, mustLoad(t, blockOf(entry{"a", 1})), entries{"a": 1})
	for _, n := range goodNumbers {
		wantDir(t, mustLoad(t, blockOf(entry{"a", 1}, entry{"b", n})), entries{"a": 1, "b": n})
	}
	for _, name := range odd {
		wantDir(t, mustLoad(t, blockOf(entry{name, 1})), entries{name: 1})
	}
}

func TestLoadOfWhatNoDirectoryHolds(t *testing.T) { // P10.2
	for name := range notFine {
		if len(name) < 400 {
			wantNotLoaded(t, blockOf(entry{name, 1}), fmt.Sprintf("the name %q", name))
			wantNotLoaded(t, blockOf(entry{name, 1}, entry{"zz", 1}), fmt.Sprintf("the name %q and another", name))
		}
	}
	for _, n := range []int{0, 1 << 31, 1<<31 + 1, 1<<32 + 1, 1 << 62} {
		wantNotLoaded(t, blockOf(entry{"a", n}), fmt.Sprint("the number ", n))
		wantNotLoaded(t, blockOf(entry{"a", 1}, entry{"b", n}), fmt.Sprint("the number ", n))
	}
	wantNotLoaded(t, blockOf(entry{"a", 1}, entry{"a", 1}), "a name twice")
	wantNotLoaded(t, blockOf(entry{"a", 1}, entry{"a", 2}), "a name with two numbers")
	wantNotLoaded(t, blockOf(entry{"a", 1}, entry{"b", 1}, entry{"a", 1}), "a name twice")
	wantNotLoaded(t, slices.Concat(plainBlock(2, 1, entry{"a", 1}), plainBlock(2, 1, entry{"a", 1})), "a name in two blocks")
}

func TestLoadOfNamesInTwoPlaces(t *testing.T) { // P10.2
	for _, n := range []int{4, 5, 8, 30, 100} {
		b := made(t, numbered(n)).Bytes()
		wantNotLoaded(t, slices.Concat(b, b), "all names twice")
		for i := 0; i < len(b); i += 512 {
			for k := 0; k < len(b); k += 512 {
				// Without names, it could stand twice.
				if i == k || b[k+1] == 0 {
					continue
				}
				twice := slices.Clone(b)
				copy(twice[i:i+512], b[k:k+512])
				wantNotLoaded(t, twice, "a block twice")
			}
		}
	}
}

func TestLoadOfAnotherOrder(t *testing.T) { // P10.2
	wantNotLoaded(t, blockOf(entry{"b", 1}, entry{"a", 1}), "names in another order")
	wantNotLoaded(t, plainBlock(0, 1, entry{"a", 1}), "a block of none")
	wantNotLoaded(t, plainBlock(2, 1, entry{"a", 1}), "one of two blocks")
	wantNotLoaded(t, slices.Concat(plainBlock(2, 1, entry{"a", 1}), plainBlock(2, 0)), "two blocks for one name")
	wantNotLoaded(t, plainBlock(1, 0, entry{"a", 1}), "a count too small")
	wantNotLoaded(t, plainBlock(1, 1, entry{"a", 1}, entry{"b", 1}), "a count too small")
	wantNotLoaded(t, plainBlock(1, 2, entry{"a", 1}), "a count too great")
	wantNotLoaded(t, plainBlock(1, 1<<62, entry{"a", 1}), "a count too great")
	wantNotLoaded(t, blockOf(entry{"a", 1}, entry{"b", 1}, entry{"c", 1}, entry{"d", 1}, entry{"e", 1}), "too many names for one block")
	b := blockOf(entry{"a", 1})
	b[511] = 1
	wantNotLoaded(t, b, "a byte behind the last entry")
	b = made(t, numbered(5)).Bytes()
	if len(b) != 1024 {
		t.Fatalf("Bytes of 5 names are %d", len(b))
	}
	wantNotLoaded(t, slices.Concat(b[512:], b[:512]), "blocks in another order")
}

func TestLoadOfTooManyNames(t *testing.T) { // P10.2
	d := made(t, numbered(2048))
	wantDir(t, mustLoad(t, d.Bytes()), numbered(2048))
	d.count++
	d.fit()
	d.place(entry{"x", 1})
	wantNotLoaded(t, d.Bytes(), "2,049 names")
}

// wantRefusedOrSound tells whether Load refuses the bytes, or gives a directory that might have given them.
func wantRefusedOrSound(t *testing.T, b []byte, at int) {
	t.Helper()
	d, e := Load(b)
	if e == api.EBADMSG && d == nil {
		return
	}
	if e != api.OK || d == nil {
		t.Fatalf("Load of a change at %d = a directory of %d names, %d", at, d.Len(), e)
	}
	var g gathered
	d.Each(g.add)
	names := map[string]int{}
	for _, x := range g {
		if Fine(x.name) != api.OK || x.number < 1 || x.number > 1<<31-1 {
			t.Fatalf("Load of a change at %d gives %q, %d", at, x.name, x.number)
		}
		wantGet(t, d, x.name, x.number, true)
		names[x.name]++
	}
	if len(names) != len(g) || d.Len() != len(g) || !bytes.Equal(d.Bytes(), b) {
		t.Fatalf("Load of a change at %d gives %v", at, g)
	}
}

func TestLoadOfAChangedByte(t *testing.T) { // P10.2
	for _, all := range []entries{
		{"a": 1}, {"a": 127, "b": 128}, {"a": 1<<31 - 1, "b": 1 << 30, "c": 1, "d": 5}, numbered(4), numbered(5), numbered(21),
	} {
		b := made(t, all).Bytes()
		for at := range b {
			for x := 1; x < 256; x = x*2 + at%2 {
				b[at] ^= byte(x)
				wantRefusedOrSound(t, b, at)
				b[at] ^= byte(x)
			}
		}
		wantDir(t, mustLoad(t, b), all)
	}
}

func TestLoadOfEachValueOfEachByte(t *testing.T) { // P10.2
	b := blockOf(entry{"a", 1}, entry{"b", 300}, entry{strings.Repeat("x", 64), 1<<31 - 1})
	mustLoad(t, b)
	for at := range b {
		was := b[at]
		for x := range 256 {
			b[at] = byte(x)
			wantRefusedOrSound(t, b, at)
		}
		b[at] = was
	}
}

func TestTheCallersBytes(t *testing.T) { // P10.3, P0.3
	for _, n := range []int{1, 5, 100} {
		all := numbered(n)
		d := made(t, all)
		first, second := d.Bytes(), d.Bytes()
		want := slices.Clone(second)
		given := append(make([]byte, 0, len(first)+1024), first...)
		copy(given[len(given):cap(given)], bytes.Repeat([]byte{0xa5}, 1024))
		was := slices.Clone(given[:cap(given)])
		l := mustLoad(t, given)
		mustPut(t, l, "x", 1)
		if !bytes.Equal(given[:cap(given)], was) {
			t.Errorf("of %d names: what Load was handed has changed", n)
		}
		spoil(given)
		spoil(first)
		if !bytes.Equal(second, want) || !bytes.Equal(d.Bytes(), want) {
			t.Errorf("of %d names: Bytes shares memory", n)
		}
		wantDir(t, d, all)
		all["x"] = 1
		wantDir(t, l, all)
	}
}

// spoil writes over b, spare room too.
func spoil(b []byte) {
	b = b[:cap(b)]
	for i := range b {
		b[i] ^= 0xff
	}
}

func TestARefusedLoadLeavesTheBytes(t *testing.T) { // P0.2, P0.3
	b := made(t, numbered(30)).Bytes()
	b[0] ^= 1
	was := slices.Clone(b)
	wantNotLoaded(t, b, "a changed byte")
	wantNotLoaded(t, b[:700], "700 bytes")
	if !bytes.Equal(b, was) {
		t.Error("what Load was handed has changed")
	}
}

func TestBytesHangOnTheEntriesAlone(t *testing.T) { // P10.2, P0.5
	all := numbered(50)
	want := made(t, all).Bytes()
	d := made(t, numbered(400))
	for name := range numbered(400) {
		if _, ok := all[name]; !ok {
			mustDrop(t, d, name)
		}
	}
	if !bytes.Equal(d.Bytes(), want) {
		t.Error("the way on which entries came shows in the bytes")
	}
	for _, name := range slices.Sorted(maps.Keys(all)) {
		mustDrop(t, d, name)
		mustPut(t, d, name, all[name])
		if !bytes.Equal(d.Bytes(), want) {
			t.Fatalf("%q went and came back, and the bytes are others", name)
		}
	}
}

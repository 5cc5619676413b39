package localdir

import (
	"fmt"
	"testing"

	"lagoon/api"
	"lagoon/crc"
)

// alike gives n names that are all sought first in block first of so many blocks.
func alike(n, first, blocks int) []string {
	var names []string
	for i := 0; len(names) < n; i++ {
		name := fmt.Sprint("name", i)
		if int(crc.Of([]byte(name)))%blocks == first {
			names = append(names, name)
		}
	}
	return names
}

// wantLayout tells whether each entry stands in its first block, or behind full blocks alone, and each block's image fits.
func wantLayout(t *testing.T, d *Dir) {
	t.Helper()
	for i, b := range d.blocks {
		if len(b) > room || len(b.image(len(d.blocks))) > api.Block {
			t.Fatalf("block %d holds %d entries in %d bytes", i, len(b), len(b.image(len(d.blocks))))
		}
		for _, e := range b {
			for k := int(crc.Of([]byte(e.name))) % len(d.blocks); k != i; k = (k + 1) % len(d.blocks) {
				if len(d.blocks[k]) != room {
					t.Fatalf("%q stands in block %d, but block %d has room", e.name, i, k)
				}
			}
		}
	}
}

func TestRoomIsLeftAtEachCount(t *testing.T) {
	for n := range 2049 {
		size := blocksFor(n)
		if size > (n+3)/4 || n > 0 && size*room < n+size {
			t.Errorf("%d names in %d blocks", n, size)
		}
	}
}

func TestTheLongestNamesFitABlock(t *testing.T) { // P10.2
	var b block
	for name := range numbered(room) {
		b.add(entry{name, mostNumber})
	}
	if len(b) != room || len(b.image(blocksFor(mostNames))) > api.Block {
		t.Errorf("%d entries are %d bytes", len(b), len(b.image(blocksFor(mostNames))))
	}
}

func TestNamesAreSoughtFromTheirFirstBlockOn(t *testing.T) { // P10.1, P10.2: the chapter's Words
	for _, n := range []int{1, 5, 68, 500, 2048} {
		d := made(t, numbered(n))
		wantLayout(t, d)
		for i, name := range d.List() {
			if i%2 == 0 {
				mustDrop(t, d, name)
			}
		}
		wantLayout(t, d)
	}
}

func TestNamesOfOneFirstBlock(t *testing.T) { // P10.1, P10.2
	for _, n := range []int{8, 12, 16, 28, 68, 150} {
		blocks := blocksFor(n)
		for _, first := range []int{0, blocks / 2, blocks - 1} {
			names := alike(n, first, blocks)
			for _, step := range []int{0, 1, 5, n / 2, n - 1} {
				d, want := New(), entries{}
				for i, name := range names {
					mustPut(t, d, name, i+1)
					want[name] = i + 1
				}
				wantLayout(t, d)
				dropByStep(t, d, want, names, step)
			}
		}
	}
}

// dropByStep drops all names, each the step-th behind the last one, and puts every third one back once.
func dropByStep(t *testing.T, d *Dir, want entries, names []string, step int) {
	t.Helper()
	left := append([]string{}, names...)
	for at := 0; len(left) > 0; {
		at = (at + step) % len(left)
		name := left[at]
		mustDrop(t, d, name)
		wantGet(t, d, name, 0, false)
		wantLayout(t, d)
		if len(left)%3 == 0 {
			mustPut(t, d, name, 77)
			wantGet(t, d, name, 77, true)
			mustDrop(t, d, name)
		}
		delete(want, name)
		left = append(left[:at], left[at+1:]...)
		if len(left)%7 == 0 {
			wantDir(t, d, want)
			wantDir(t, mustLoad(t, d.Bytes()), want)
		}
	}
	wantDir(t, d, nil)
}

func TestANameThatIsNotThereAmongFullBlocks(t *testing.T) { // P10.1
	blocks := blocksFor(68)
	names := alike(90, blocks-1, blocks)
	d := New()
	for _, name := range names[:68] {
		mustPut(t, d, name, 1)
	}
	for _, name := range names[68:] {
		wantGet(t, d, name, 0, false)
		wantDrop(t, d, name, api.ENOENT)
	}
	if d.Len() != 68 {
		t.Errorf("Len = %d", d.Len())
	}
}

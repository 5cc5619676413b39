package localfs

import (
	"fmt"
	"maps"
	"slices"
	"strings"
	"testing"

	"lagoon/api"
	"lagoon/device"
	"lagoon/inode"
	"lagoon/localdir"
	"lagoon/wal"
)

// Blocks of the crafted file system that are for use as the test likes.
const spare = 30

// block is b, and zeros behind it.
func block(b []byte) []byte {
	out := make([]byte, 512)
	copy(out, b)
	return out
}

// part is an inode with those numbers at their places.
func part(size int, numbers ...int) *inode.Inode {
	n, e := inode.Load(numberBytes(append([]int{size}, numbers...), 44))
	if e != api.OK {
		panic(e)
	}
	return n
}

// numberBytes gives the numbers as four bytes each, and zeros behind them.
func numberBytes(numbers []int, size int) []byte {
	b := make([]byte, size)
	for i, n := range numbers {
		for k := range 4 {
			b[4*i+k] = byte(n >> (8 * k))
		}
	}
	return b
}

// names is a block of a directory with one name for each head.
func names(heads ...int) []byte {
	d := localdir.New()
	for i, head := range heads {
		d.Put(fmt.Sprint("name", i), head)
	}
	return d.Bytes()
}

func put(at int, b []byte) api.Put { return api.Put{Block: at, Data: block(b)} }

func fileHead(at int, parts ...*inode.Inode) api.Put {
	return put(at, (&object{parts: parts}).image())
}

func dirHead(at int, parts ...*inode.Inode) api.Put {
	return put(at, (&object{dir: localdir.New(), parts: parts}).image())
}

// crafted is a device with an empty file system, over which those blocks were written.
func crafted(t *testing.T, puts ...api.Put) *device.Device {
	t.Helper()
	d, _ := made(t, 400)
	v, _ := wal.Mount(d)
	if e := v.Commit(puts...); e != api.OK {
		t.Fatalf("Commit = %d", e)
	}
	return d
}

// withFile gives the blocks of a file system whose root has one file, of the part.
func withFile(p *inode.Inode, more ...api.Put) []api.Put {
	return append(more, dirHead(1, part(512, 2)), put(2, names(3)), fileHead(3, p))
}

func TestCraftedFileSystems(t *testing.T) { // P11.1: so that those that are spoilt differ from good ones in one thing alone
	for name, puts := range map[string][]api.Put{
		"an empty root":      {dirHead(1)},
		"a file":             withFile(part(0)),
		"a file with holes":  withFile(part(5000, 0, 4)),
		"a short block":      withFile(part(5, 4), put(4, []byte("abcde"))),
		"single":             withFile(part(5000, 0, 0, 0, 0, 0, 0, 0, 0, 4), put(4, numberBytes([]int{5}, 512))),
		"double":             withFile(part(40000, 0, 0, 0, 0, 0, 0, 0, 0, 0, 4), put(4, numberBytes([]int{5}, 512)), put(5, numberBytes([]int{6}, 512))),
		"a single of holes":  withFile(part(5000, 0, 0, 0, 0, 0, 0, 0, 0, 4), put(4, nil)),
		"two directories":    {dirHead(1, part(512, 2)), put(2, names(3)), dirHead(3, part(512, 4)), put(4, names(5)), dirHead(5)},
		"the volume's last":  {dirHead(1, part(512, 97)), put(97, names(96)), fileHead(96, part(0))},
		"a number far apart": {dirHead(1, part(512, spare)), put(spare, names(3)), fileHead(3, part(9, 50))},
	} {
		f, e := Mount(crafted(t, puts...))
		if e != api.OK {
			t.Errorf("%s: Mount = %d", name, e)
			continue
		}
		wantState(t, f, stateOf(t, f))
		wantWhole(t, f)
	}
}

func TestSpoiltFileSystems(t *testing.T) { // P11.1
	junk := slices.Repeat([]byte{7}, 512)
	behind := (&object{dir: localdir.New()}).image()
	behind[511] = 1
	for name, puts := range map[string][]api.Put{
		"no mark":                     {put(0, nil)},
		"junk for a mark":             {put(0, junk)},
		"more behind the mark":        {put(0, append(markImage()[:100:100], 1))},
		"no root":                     {put(1, nil)},
		"junk for a root":             {put(1, junk)},
		"bytes behind the head":       {put(1, behind)},
		"a root that is a file":       {fileHead(1, part(0))},
		"a file without a part":       {dirHead(1, part(512, 2)), put(2, names(3)), fileHead(3)},
		"a file of two parts":         {dirHead(1, part(512, 2)), put(2, names(3)), fileHead(3, part(0), part(0))},
		"a directory's empty part":    {dirHead(1, part(0))},
		"an empty part behind":        {dirHead(1, part(512, 2), part(0)), put(2, names(3)), fileHead(3, part(0))},
		"an empty part ahead":         {dirHead(1, part(0), part(512, 2)), put(2, names(3)), fileHead(3, part(0))},
		"parts that are too small":    {dirHead(1, part(512, 2), part(512, 4)), put(2, names(3, 5, 6, 7, 8)[:512]), put(4, names(3, 5, 6, 7, 8)[512:]), fileHead(3, part(0)), fileHead(5, part(0)), fileHead(6, part(0)), fileHead(7, part(0)), fileHead(8, part(0))},
		"a directory of half a block": {dirHead(1, part(256, 2)), put(2, names(3)), fileHead(3, part(0))},
		"a directory of a hole":       {dirHead(1, part(512))},
		"junk for names":              {dirHead(1, part(512, 2)), put(2, junk)},
		"a head that is junk":         {dirHead(1, part(512, 2)), put(2, names(3)), put(3, junk)},
		"a head of zeros":             {dirHead(1, part(512, 2)), put(2, names(3)), put(3, nil)},
		"a head out of range":         {dirHead(1, part(512, 2)), put(2, names(98))},
		"a head far out of range":     {dirHead(1, part(512, 2)), put(2, names(1<<31-1))},
		"the root in itself":          {dirHead(1, part(512, 2)), put(2, names(1))},
		"a directory in itself":       {dirHead(1, part(512, 2)), put(2, names(3)), dirHead(3, part(512, 4)), put(4, names(3))},
		"a ring":                      {dirHead(1, part(512, 2)), put(2, names(3)), dirHead(3, part(512, 4)), put(4, names(5)), dirHead(5, part(512, 6)), put(6, names(3))},
		"two names of one file":       {dirHead(1, part(512, 2)), put(2, names(3, 3)), fileHead(3, part(0))},
		"a head among the names":      {dirHead(1, part(512, 2)), put(2, names(2))},
		"a block twice":               withFile(part(1024, 4, 4)),
		"the root's head":             withFile(part(512, 1)),
		"its own head":                withFile(part(512, 3)),
		"the names' block":            withFile(part(512, 2)),
		"a block of another file":     {dirHead(1, part(512, 2)), put(2, names(3, 4)), fileHead(3, part(512, 5)), fileHead(4, part(512, 5))},
		"a block out of range":        withFile(part(512, 98)),
		"a block far out of range":    withFile(part(512, 1<<32-1)),
		"a block behind the end":      withFile(part(512, 4, 5)),
		"a block of an empty file":    withFile(part(0, 4)),
		"bytes behind the end":        withFile(part(5, 4), put(4, []byte("abcdef"))),
		"bytes at the block's end":    withFile(part(700, 0, 4), put(4, junk)),
		"single out of range":         withFile(part(5000, 0, 0, 0, 0, 0, 0, 0, 0, 98)),
		"single twice":                withFile(part(5000, 4, 0, 0, 0, 0, 0, 0, 0, 4), put(4, nil)),
		"junk behind single":          withFile(part(5000, 0, 0, 0, 0, 0, 0, 0, 0, 4), put(4, junk)),
		"more than 64 numbers":        withFile(part(65536, 0, 0, 0, 0, 0, 0, 0, 0, 4), put(4, numberBytes(append(make([]int, 64), 5), 512))),
		"single behind the end":       withFile(part(4096, 0, 0, 0, 0, 0, 0, 0, 0, 4), put(4, numberBytes([]int{5}, 512))),
		"a number behind the end":     withFile(part(5000, 0, 0, 0, 0, 0, 0, 0, 0, 4), put(4, numberBytes([]int{0, 0, 5}, 512))),
		"double out of range":         withFile(part(40000, 0, 0, 0, 0, 0, 0, 0, 0, 0, 1<<20)),
		"a number behind single":      withFile(part(36864, 0, 0, 0, 0, 0, 0, 0, 0, 0, 4), put(4, numberBytes([]int{5}, 512)), put(5, numberBytes([]int{6}, 512))),
		"bytes behind double":         withFile(part(36870, 0, 0, 0, 0, 0, 0, 0, 0, 0, 4), put(4, numberBytes([]int{5}, 512)), put(5, numberBytes([]int{6}, 512)), put(6, junk)),
		"double in itself":            withFile(part(40000, 0, 0, 0, 0, 0, 0, 0, 0, 0, 4), put(4, numberBytes([]int{4}, 512))),
		"a number twice in double":    withFile(part(65536, 0, 0, 0, 0, 0, 0, 0, 0, 0, 4), put(4, numberBytes([]int{5}, 512)), put(5, numberBytes([]int{6, 6}, 512))),
	} {
		wantNoMount(t, name, crafted(t, puts...), api.EBADMSG)
	}
}

func TestAHeadWithASizeThatIsTooGreat(t *testing.T) { // P11.1
	image := (&object{parts: []*inode.Inode{part(65536)}}).image()
	image[3]++ // the lowest byte of the size, behind the kind, the number of parts and the length
	wantNoMount(t, "65,537 bytes", crafted(t, dirHead(1, part(512, 2)), put(2, names(3)), put(3, image)), api.EBADMSG)
}

// cut lays the root's bytes down anew, the first part of them being so great.
func cut(t *testing.T, f *FS, first int) {
	t.Helper()
	c := f.begin()
	root := f.known[rootBlock]
	b := root.dir.Bytes()
	c.resize(root, 0)
	for _, piece := range [][]byte{b[:first], b[first:]} {
		p := inode.New()
		if e := p.Write(c.cache, c.free, 0, piece); e != api.OK {
			t.Fatalf("Write = %d", e)
		}
		root.parts = append(root.parts, p)
	}
	c.cache.Put(rootBlock, root.image())
	if e := c.cache.Commit(); e != api.OK {
		t.Fatalf("Commit = %d", e)
	}
}

func TestADirectoryCutAtAnotherPlace(t *testing.T) { // P11.1
	for _, first := range []int{65536, 65024, 512 * 12} {
		d, f := made(t, blocksOf(1000))
		s := empty()
		for i := range 600 {
			s = must(t, f, s, create(fmt.Sprint(i)))
		}
		if n := len(f.known[rootBlock].dir.Bytes()); n <= 65536 || n > 65536+512*12 {
			t.Fatalf("%d bytes: the test itself is wrong", n)
		}
		if cut(t, f, first); first == 65536 {
			wantState(t, mounted(t, d), s)
		} else {
			wantNoMount(t, fmt.Sprint("cut at ", first), d, api.EBADMSG)
		}
	}
}

// rich is a file system with all kinds of blocks.
func rich(t *testing.T) (*device.Device, *FS) {
	t.Helper()
	d, f := made(t, blocksOf(250))
	s := must(t, f, empty(), mkdir("d"), mkdir("d/e"), replace("d/f", strings.Repeat("x", 65536)), replace("d/g", strings.Repeat("y", 5000)), create("d/e/h"), truncate("d/e/h", 3000))
	for i := range 12 {
		s = must(t, f, s, create(fmt.Sprint("d/e/", i)))
	}
	return d, f
}

// spoil gives ways to spoil a block.
func spoil(r *noise, was, other []byte) map[string][]byte {
	out := map[string][]byte{"zeros": make([]byte, 512), "ones": slices.Repeat([]byte{255}, 512), "litter": r.bytes(512), "another": other}
	for i := range 12 {
		b := slices.Clone(was)
		at := r.below(512)
		if i < 8 {
			at = r.below(60)
		}
		b[at] ^= 1 << r.below(8)
		out[fmt.Sprint("bit ", i)] = b
	}
	return out
}

// wantNoPanic mounts what is there; if it is a file system, calls of it end, and what they leave is one too.
func wantNoPanic(t *testing.T, r *noise, d *device.Device) bool {
	t.Helper()
	f, e := Mount(d)
	if e != api.OK {
		if e != api.EBADMSG || f != nil {
			t.Errorf("Mount = %v, %d", f, e)
		}
		return false
	}
	for range 40 {
		c := someCall(r)
		c.on(f)
	}
	wantWhole(t, f)
	return true
}

func TestEachBlockOfTheVolumeSpoilt(t *testing.T) { // P0.1, P11.1
	r := noise(11)
	_, f := rich(t)
	seen := map[bool]int{}
	for i := range f.volume.Blocks() {
		if !f.free.Used(i) || i%3 > 0 && i > 20 && i < 140 {
			continue
		}
		d, g := rich(t)
		was, _ := g.volume.Read(i)
		other, _ := g.volume.Read(1 + r.below(40))
		ways := spoil(&r, was, other)
		for _, name := range slices.Sorted(maps.Keys(ways)) {
			v, _ := wal.Mount(d)
			if v.Commit(api.Put{Block: i, Data: ways[name]}); i == 0 && !slices.Equal(was, ways[name]) {
				wantNoMount(t, name, d, api.EBADMSG)
			}
			seen[wantNoPanic(t, &r, d.Crash(func(int) bool { return true }))]++
			v.Commit(api.Put{Block: i, Data: was})
			if t.Failed() {
				t.Fatalf("block %d, %s", i, name)
			}
		}
	}
	if seen[true] == 0 || seen[false] == 0 {
		t.Errorf("mounted and not: %v", seen)
	}
}

func TestEachBlockOfTheDeviceSpoilt(t *testing.T) { // P0.1, P11.1
	r := noise(12)
	first, f := rich(t)
	f.Sync()
	for i := range first.Blocks() {
		was, _ := first.Read(i)
		if slices.Equal(was, make([]byte, 512)) && i%50 > 0 {
			continue
		}
		for name, b := range spoil(&r, was, r.bytes(512)) {
			// Most blocks are pages of the log, and one is as good as the other.
			if i > 0 && (i+len(name))%4 > 0 {
				continue
			}
			d := first.Crash(nil)
			d.Write(i, b)
			if wantNoPanic(t, &r, d); t.Failed() {
				t.Fatalf("block %d, %s", i, name)
			}
		}
	}
}

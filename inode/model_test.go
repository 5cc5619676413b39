package inode

import (
	"bytes"
	"slices"
	"testing"

	"lagoon/api"
	"lagoon/bcache"
)

// noise gives numbers that hang on the seed alone.
type noise uint64

func (n *noise) below(limit int) int {
	*n = *n*6364136223846793005 + 1442695040888963407
	return int(uint64(*n)>>33) % limit
}

// plain is the chapter told in lists: a file's bytes, and which of its blocks were written.
type plain struct {
	file []byte
	has  [128]bool
}

// blocks tells how many blocks the file takes, those of numbers among them.
func (p *plain) blocks() int {
	k := 0
	for _, has := range p.has {
		if has {
			k++
		}
	}
	if slices.Contains(p.has[8:72], true) {
		k++
	}
	if slices.Contains(p.has[72:], true) {
		k += 2
	}
	return k
}

func (p plain) write(at int, b []byte) plain {
	p.file = over(p.file, at, b)
	for i := range b {
		p.has[(at+i)/block] = true
	}
	return p
}

func (p plain) truncate(size int) plain {
	p.file = append(slices.Clone(p.file[:min(size, len(p.file))]), make([]byte, max(0, size-len(p.file)))...)
	for i := range p.has {
		p.has[i] = p.has[i] && i*block < size
	}
	return p
}

// spot gives a place in a file, most of the time near an edge.
func (n *noise) spot() int {
	edges := []int{0, block, 3 * block, single, single + block, 40 * block, double, double + 3*block, most}
	if n.below(3) == 0 {
		return n.below(most + 1)
	}
	return min(most, max(0, edges[n.below(len(edges))]+n.below(1201)-600))
}

// count gives how many bytes are written.
func (n *noise) count() int {
	return n.below([]int{2, 10, 600, 3000, 30000}[n.below(5)])
}

// step makes one call of the file; what the model says of it is told, and what it is then.
func step(d *disk, n *Inode, p plain, r *noise) (api.Errno, plain) {
	at := r.spot()
	if r.below(3) == 0 {
		return n.Truncate(d.c, d.m, at), p.truncate(at)
	}
	b := text(min(r.count(), most-at), r.below(256))
	return n.Write(d.c, d.m, at, b), p.write(at, b)
}

func TestRandomCallsAgainstPlainFiles(t *testing.T) { // P9.1, P9.2, P9.3, P0.5
	for seed := range 120 {
		r := noise(seed)
		d := made(t, 40+r.below(300))
		files, models := []*Inode{New(), New(), New()}, make([]plain, 3)
		for range 60 {
			i := r.below(3)
			used := d.m.Bytes()
			free := d.m.Free()
			e, next := step(d, files[i], models[i], &r)
			if next.blocks()-models[i].blocks() > free {
				if e != api.ENOSPC || !bytes.Equal(d.m.Bytes(), used) {
					t.Errorf("%d blocks and %d free: %d, %d are free then", next.blocks()-models[i].blocks(), free, e, d.m.Free())
				}
			} else {
				models[i] = next
				if e != api.OK {
					t.Errorf("the call = %d", e)
				}
			}
			taken := 0
			for k, p := range models {
				taken += p.blocks()
				wantFile(t, d, files[k], p.file)
				if p.blocks() > Cost(len(p.file)) {
					t.Errorf("%d blocks, the cost is %d", p.blocks(), Cost(len(p.file)))
				}
			}
			wantTaken(t, d, taken)
			if r.below(5) == 0 {
				files[i] = mustLoad(t, files[i].Bytes())
			}
			if t.Failed() {
				t.Fatalf("seed %d", seed)
			}
		}
	}
}

func TestRandomCallsInSmallCaches(t *testing.T) { // P9.2, P9.3
	for seed := range 120 {
		r := noise(seed)
		d := made(t, 150)
		d.c = bcache.New(d.v, 1+r.below(40))
		n, p := New(), plain{}
		for range 60 {
			image, used := n.Bytes(), d.m.Bytes()
			e, next := step(d, n, p, &r)
			if e == api.OK {
				p = next
				mustCommit(t, d)
			} else {
				if e != api.ENOSPC || !bytes.Equal(d.m.Bytes(), used) {
					t.Errorf("the call = %d, or the map has changed", e)
				}
				wantImage(t, n, image)
				d.c.Drop()
			}
			wantFile(t, d, n, p.file)
			wantTaken(t, d, p.blocks())
			if t.Failed() {
				t.Fatalf("seed %d", seed)
			}
		}
	}
}

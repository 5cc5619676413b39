package bcache

import (
	"slices"
	"testing"

	"lagoon/api"
)

// noise gives numbers that hang on the seed alone.
type noise uint64

func (n *noise) below(limit int) int {
	*n = *n*6364136223846793005 + 1442695040888963407
	return int(uint64(*n)>>33) % limit
}

// plain is the chapter told in lists: what a cache of ten blocks must answer, with a block's first byte for all of it.
type plain struct {
	room              int
	volume            [10]byte
	order             []int // the held ones, the least lately used one first
	pins              map[int]int
	put               map[int]byte
	dead              bool
	met, missed, outs int
}

func (p *plain) has(block int) bool { return slices.Contains(p.order, block) }

func (p *plain) leave(block int) {
	p.order = slices.DeleteFunc(p.order, func(x int) bool { return x == block })
}

// use is what all uses have in common.
func (p *plain) use(block int) api.Errno {
	if block < 0 || block > 9 {
		return api.EINVAL
	}
	if !p.has(block) && len(p.order) == p.room {
		k := slices.IndexFunc(p.order, func(x int) bool {
			_, dirty := p.put[x]
			return !dirty && p.pins[x] == 0
		})
		if k < 0 {
			return api.ENOSPC
		}
		p.leave(p.order[k])
		p.outs++
	}
	p.leave(block)
	p.order = append(p.order, block)
	return api.OK
}

// meet is what Get and Pin have in common.
func (p *plain) meet(block int) api.Errno {
	held := p.has(block)
	e := p.use(block)
	if e == api.OK && held {
		p.met++
	} else if e == api.OK {
		p.missed++
	}
	return e
}

func (p *plain) now(block int) byte {
	if x, dirty := p.put[block]; dirty {
		return x
	}
	return p.volume[block]
}

func (p *plain) pin(block int) api.Errno {
	e := p.meet(block)
	if e == api.OK {
		p.pins[block]++
	}
	return e
}

func (p *plain) unpin(block int) api.Errno {
	if p.pins[block] == 0 {
		return api.EINVAL
	}
	p.pins[block]--
	return api.OK
}

func (p *plain) write(block int, x byte) api.Errno {
	e := p.use(block)
	if e == api.OK {
		p.put[block] = x
	}
	return e
}

func (p *plain) commit() api.Errno {
	if p.dead {
		return api.EIO
	}
	for block, x := range p.put {
		p.volume[block] = x
	}
	p.put = map[int]byte{}
	return api.OK
}

func (p *plain) drop() {
	for block := range p.put {
		p.leave(block)
		delete(p.pins, block)
	}
	p.put = map[int]byte{}
}

// step does one call of both, and tells what was answered otherwise.
func (p *plain) step(t *testing.T, c *Cache, n *noise) {
	t.Helper()
	block, x := n.below(12)-1, byte(n.below(256))
	var got, want api.Errno
	kind := n.below(30)
	switch {
	case kind < 9:
		var b []byte
		b, got = c.Get(block)
		want = p.meet(block)
		if want == api.OK && got == api.OK && (len(b) != api.Block || b[0] != p.now(block) || b[511] != b[0]) {
			t.Errorf("Get(%d) gives other bytes", block)
		}
	case kind < 14:
		got, want = c.Pin(block), p.pin(block)
	case kind < 20:
		got, want = c.Unpin(block), p.unpin(block)
	case kind < 25:
		got, want = c.Put(block, full(x)), p.write(block, x)
	case kind < 26:
		got, want = c.Put(block, full(x)[:x]), api.EINVAL
	case kind < 29:
		got, want = c.Commit(), p.commit()
	default:
		c.Drop()
		p.drop()
	}
	if got != want {
		t.Errorf("kind %d of block %d = %d, want %d", kind, block, got, want)
	}
	wantHeld(t, c, slices.Sorted(slices.Values(p.order))...)
	wantCounts(t, c, p.met, p.missed, p.outs)
}

func TestAgainstAPlainModel(t *testing.T) { // P7.1, P7.2, P0.2, P0.5
	for seed := range 150 {
		n := noise(seed)
		d, v, c := cached(t, 1+seed%11)
		p := &plain{room: 1 + seed%11, pins: map[int]int{}, put: map[int]byte{}}
		for block := range p.volume {
			p.volume[block] = byte(100 + block)
		}
		for k := range 300 {
			if k == 250 && seed%3 == 0 {
				d.Fuse(0)
				p.dead = true
			}
			p.step(t, c, &n)
			if t.Failed() {
				t.Fatalf("seed %d, step %d", seed, k)
			}
		}
		for block, x := range p.volume {
			wantRead(t, v, block, x)
		}
	}
}

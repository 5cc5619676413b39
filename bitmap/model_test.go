package bitmap

import (
	"testing"

	"lagoon/api"
)

type noise uint64

func (n *noise) below(limit int) int {
	*n = *n*6364136223846793005 + 1442695040888963407
	return int(uint64(*n)>>33) % limit
}

// plain is the chapter told number by number: whether each is used.
type plain []bool

func (p plain) take() (int, api.Errno) {
	for i, used := range p {
		if !used {
			p[i] = true
			return i, api.OK
		}
	}
	return 0, api.ENOSPC
}

func (p plain) run(k int) (int, api.Errno) {
	if k < 1 || k > len(p) {
		return 0, api.EINVAL
	}
	for first := 0; first+k <= len(p); first++ {
		if p.free(first, k) {
			for i := range k {
				p[first+i] = true
			}
			return first, api.OK
		}
	}
	return 0, api.ENOSPC
}

func (p plain) free(first, k int) bool {
	for _, used := range p[first : first+k] {
		if used {
			return false
		}
	}
	return true
}

func (p plain) put(i int, to bool, already api.Errno) api.Errno {
	if i < 0 || i >= len(p) {
		return api.EINVAL
	}
	if p[i] == to {
		return already
	}
	p[i] = to
	return api.OK
}

func (p plain) used() []int {
	var all []int
	for i, used := range p {
		if used {
			all = append(all, i)
		}
	}
	return all
}

// step makes one call of the map and of the plain one.
func step(t *testing.T, r *noise, m *Map, p plain) {
	t.Helper()
	i := r.below(len(p)+4) - 2
	switch r.below(9) {
	case 0:
		want, wantE := p.take()
		wantTake(t, m, want, wantE)
	case 1:
		k := r.below(8)
		want, wantE := p.run(k)
		wantRun(t, m, k, want, wantE)
	case 2:
		want, wantE := p.run(i)
		wantRun(t, m, i, want, wantE)
	case 3, 4:
		wantSet(t, m, i, p.put(i, true, api.EBUSY))
	default:
		wantGive(t, m, i, p.put(i, false, api.ENOENT))
	}
}

func TestRandomCallsAgainstAPlainMap(t *testing.T) { // P8.1, P8.2
	for seed := range 300 {
		r := noise(seed)
		n := r.below(200)
		m, p := New(n), make(plain, n)
		for range 300 {
			step(t, &r, m, p)
			switch r.below(12) {
			case 0:
				m = m.Copy()
			case 1:
				m = mustLoad(t, m.Bytes(), n)
			case 2:
				wantUsed(t, m, n, p.used()...)
			}
			if t.Failed() {
				t.Fatalf("seed %d", seed)
			}
		}
		wantUsed(t, m, n, p.used()...)
	}
}

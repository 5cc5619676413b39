package localdir

import (
	"fmt"
	"strings"
	"testing"

	"lagoon/api"
)

type noise uint64

func (n *noise) below(limit int) int {
	*n = *n*6364136223846793005 + 1442695040888963407
	return int(uint64(*n)>>33) % limit
}

// put and drop are the chapter told by a map.
func (want entries) put(name string, n int) api.Errno {
	if e, bad := notFine[name]; bad {
		return e
	}
	if n < 1 || n > 1<<31-1 {
		return api.EINVAL
	}
	if _, ok := want[name]; !ok && len(want) == 2048 {
		return api.ENOSPC
	}
	want[name] = n
	return api.OK
}

func (want entries) drop(name string) api.Errno {
	if _, ok := want[name]; !ok {
		return api.ENOENT
	}
	delete(want, name)
	return api.OK
}

// someName gives one of so many names, short and long ones; seldom one that is not Fine.
func someName(r *noise, many int) string {
	if r.below(40) == 0 {
		return []string{"", ".", "..", "a/b", strings.Repeat("x", 65)}[r.below(5)]
	}
	i := r.below(many)
	return fmt.Sprintf("%0*d", 1+i%64, i)
}

// step makes one call of the directory and of the map.
func step(t *testing.T, r *noise, d *Dir, want entries, many, drops int) {
	t.Helper()
	name := someName(r, many)
	if r.below(10) < drops {
		wantDrop(t, d, name, want.drop(name))
	} else {
		n := r.below(1<<31) + r.below(2)*r.below(3)*(1<<30)
		wantPut(t, d, name, n, want.put(name, n))
	}
	n, ok := want[name]
	wantGet(t, d, name, n, ok)
	if d.Len() != len(want) {
		t.Errorf("Len = %d, want %d", d.Len(), len(want))
	}
}

func TestRandomCallsAgainstAMap(t *testing.T) { // P10.1, P10.2
	for seed := range 200 {
		r := noise(seed)
		many := 1 + r.below(400)
		d, want := New(), entries{}
		for i := range 400 {
			// More come, then more go.
			step(t, &r, d, want, many, 3+i/200*4)
			switch r.below(15) {
			case 0:
				d = mustLoad(t, d.Bytes())
			case 1:
				wantDir(t, d, want)
			}
			if t.Failed() {
				t.Fatalf("seed %d", seed)
			}
		}
		wantDir(t, mustLoad(t, d.Bytes()), want)
		wantLayout(t, d)
	}
}

func TestRandomCallsOnAFullDirectory(t *testing.T) { // P10.1, P10.2
	r := noise(1)
	d, want := New(), entries{}
	for i := range 30000 {
		step(t, &r, d, want, 4000, 1)
		if i%5000 == 4999 {
			wantDir(t, d, want)
			wantLayout(t, d)
			d = mustLoad(t, d.Bytes())
		}
		if t.Failed() {
			t.Fatalf("step %d", i)
		}
	}
	if wantDir(t, d, want); len(want) < 2000 {
		t.Errorf("it never was near to full: %d", len(want))
	}
}

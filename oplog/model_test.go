package oplog

import (
	"math"
	"testing"

	"lagoon/api"
)

// someVector gives a vector about as great as the log's own.
func someVector(r *noise, p plain) api.Vector {
	v := p.vector()
	for node := range v {
		v[node] += int64(r.below(5) - 3)
	}
	if r.below(4) == 0 {
		return v[:r.below(len(v)+1)]
	}
	return v
}

// step makes one call of the log and of the plain one.
func step(t *testing.T, r *noise, l *Log, p plain) plain {
	t.Helper()
	switch r.below(10) {
	case 0:
		b := r.bytes(r.below(300))
		want := api.OK
		if len(b) > 256 {
			want = api.EINVAL
		} else {
			p.meta = string(b)
		}
		if e := l.SetMeta(b); e != want {
			t.Fatalf("SetMeta of %d bytes = %d, want %d", len(b), e, want)
		}
	case 1:
		v, most := someVector(r, p), []int{math.MinInt, 0, 1, 3, 10, math.MaxInt}[r.below(6)]
		wantSame(t, "Since", l.Since(v, most), p.since(v, most))
	case 2:
		os := someOps(r, p, 400)
		if fits := plainCost(p.ops...)+plainCost(os...) <= p.room; l.Fits(os...) != fits {
			t.Fatalf("Fits = %v", !fits)
		}
	default:
		os := someOps(r, p, 200)
		if r.below(6) == 0 {
			os[r.below(len(os))] = someOp(r, p, 100)
		}
		p = add(t, l, p, os...)
	}
	return p
}

func TestRandomCallsAgainstAPlainLog(t *testing.T) { // P13.1, P13.2, P13.3
	refused, full := 0, 0
	for seed := range 40 {
		r := noise(seed)
		d := formatted(t, 100)
		p := plain{room: 200 + r.below(8000)}
		l := opened(t, mounted(t, d), p.room)
		for i := range 60 {
			p = step(t, &r, l, p)
			if i%7 == 0 {
				wantLog(t, l, p)
			}
			switch r.below(15) {
			case 0:
				l = opened(t, l.files, p.room)
			case 1:
				l.Sync()
				d = d.Crash(nil)
				p.room += r.below(300) - 140
				p.room = max(0, p.room)
				l = opened(t, mounted(t, d), p.room)
			}
			if t.Failed() {
				t.Fatalf("seed %d, step %d", seed, i)
			}
		}
		wantLog(t, l, p)
		os := someOps(&r, p, 90)
		switch _, _, e := p.after(os...); e {
		case api.EINVAL:
			refused++
		case api.ENOSPC:
			full++
		}
	}
	if refused == 0 || full == 0 {
		t.Errorf("%d refused, %d full: the test itself is wrong", refused, full)
	}
}

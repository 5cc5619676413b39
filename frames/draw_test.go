package frames

import (
	"bytes"
	"math"
	"testing"

	"lagoon/api"
)

// number draws one near an edge, or of any size.
func (n *noise) number(edges ...int64) int64 {
	if n.below(8) == 0 {
		return int64(n.next()) << n.below(33) >> n.below(60)
	}
	return edges[n.below(len(edges))]
}

func (n *noise) vector() api.Vector {
	v := api.Vector{}
	for range n.below(1 + n.below(68)) {
		v = append(v, n.number(0, 0, 0, 1, 2, 127, 128, great-1, great))
	}
	if n.below(30) == 0 && len(v) > 0 {
		v[n.below(len(v))] = n.number(-1, great+1, math.MinInt64, math.MaxInt64)
	}
	return v
}

// op draws an operation that mostly may be.
func (n *noise) op() api.Op {
	o := sampleOp(n.below(4) + 1)
	o.Seen = n.vector()
	o.Stamp = api.ID{Time: n.number(501, 502, great), Node: n.below(64)}
	if o.Kind <= api.KFile {
		o.Obj = o.Stamp
	}
	if o.Kind == api.KWrite {
		o.Data = n.bytes(n.below(300), 255)
	}
	o.Seq = 1
	if o.Stamp.Node < len(o.Seen) {
		o.Seen[o.Stamp.Node] = o.Seen[o.Stamp.Node] % great
		o.Seq = o.Seen[o.Stamp.Node] + 1
	}
	if n.below(60) == 0 {
		o.Seq++
	}
	return o
}

// frame draws a frame: of those that may be about as many as of the others.
func (n *noise) frame() api.Frame {
	f := api.Frame{Kind: int(n.number(1, 2, 3, 3, 3, 3, 4)), From: int(n.number(0, 1, 62, 63)), To: int(n.number(2, 3, 60, 61, 63))}
	f.Session, f.Vec = n.number(1, 2, 127, 128, great-1, great), n.vector()
	f.Seq = int(n.number(0, 0, 0, 1, 127, 128, 1<<30))
	f.Last = n.below(3) == 0
	if f.Kind != api.FOps && n.below(8) > 0 {
		f.Last = false
		return f
	}
	for range n.below(9 + n.below(3)) {
		f.Ops = append(f.Ops, n.op())
	}
	return f
}

func TestEncodeAndDecodeGoBothWays(t *testing.T) { // P22.1
	fine := 0
	n := noise(1)
	for range 10000 {
		f := n.frame()
		may := plainMay(f)
		wantMay(t, f, may, "a draw")
		if may {
			fine++
		}
	}
	if fine < 2000 || fine > 8000 {
		t.Errorf("%d of 10000 may be", fine)
	}
}

func TestDecodeOfDrawnBytes(t *testing.T) { // P22.1: what Decode takes is just what Encode gives
	fine := 0
	n := noise(2)
	for range 12000 {
		f := n.frame()
		if hasNegative(f) {
			continue
		}
		held := bytes.Join(plainFields(f), nil)
		for range n.below(3) {
			held[n.below(len(held))] = byte(n.next())
		}
		if wantDecode(t, wired(held)) {
			fine++
		}
	}
	if fine < 2000 {
		t.Errorf("just %d may be", fine)
	}
}

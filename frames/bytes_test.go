package frames

import (
	"bytes"
	"encoding/hex"
	"fmt"
	"slices"
	"strings"
	"testing"

	"lagoon/api"
	"lagoon/crc"
	"lagoon/ops"
)

func fromHex(t *testing.T, s string) []byte {
	t.Helper()
	b, err := hex.DecodeString(strings.ReplaceAll(s, " ", ""))
	if err != nil {
		t.Fatal(err)
	}
	return b
}

func TestEncodeByteForByte(t *testing.T) { // P22.1
	stamp := api.ID{Time: 300, Node: 2}
	dir := api.Op{Kind: api.KDir, Stamp: stamp, Seq: 3, Obj: stamp, Name: "ab", Seen: api.Vector{1, 0, 2, 0}}
	write := api.Op{Kind: api.KWrite, Stamp: api.ID{Time: 1, Node: 1}, Seq: 1, Obj: api.ID{Time: 1}}
	for _, c := range []struct {
		f api.Frame
		b string
	}{
		{api.Frame{Kind: api.FHello, From: 3, To: 5, Session: 300, Vec: api.Vector{1, 0, 2, 0}}, "0c000000 f72e2412 01 03 05 ac02 00 00 03010002 00"},
		{api.Frame{Kind: api.FAnswer, From: 5, To: 3, Session: 300}, "09000000 24aae9a5 02 05 03 ac02 00 00 00 00"},
		{api.Frame{Kind: api.FOps, To: 63, Session: great, Seq: 1 << 30, Last: true, Vec: api.Vector{1, 0, 2, 0, 0}, Ops: []api.Op{dir, write}}, "36000000 f7c23925 03 00 3f 808080808080808010 8080808004 01 03010002 02 12 01ac020203ac0202000002616200030100020b 0401010101000000000000"},
		{api.Frame{Kind: api.FOps, From: 63, Session: 1}, "08000000 8124e688 03 3f 00 01 00 00 00 00"},
		{api.Frame{Kind: api.FOps, From: 1, To: 2, Session: 127, Seq: 128, Vec: at(63, great), Ops: []api.Op{write}}, "5d000000 f765a69d 03 01 02 7f 8001 00 40" + strings.Repeat("00", 63) + "808080808080808010 01 0b 0401010101000000000000"},
		{api.Frame{Kind: api.FAck, From: 3, To: 5, Session: 128, Seq: 16384, Vec: api.Vector{great}}, "14000000 39a91971 04 03 05 8001 808001 00 01808080808080808010 00"},
	} {
		want := fromHex(t, c.b)
		if b, e := Encode(c.f); e != api.OK || !bytes.Equal(b, want) {
			t.Errorf("Encode of %+v: %x, %d; want %x", c.f, b, e, want)
		}
		wantRead(t, want, c.f, "these bytes")
	}
}

func TestBytesAreThoseOfTheLayersBelow(t *testing.T) { // P22.1
	for _, kind := range kinds() {
		f := sample(kind)
		b, _ := Encode(f)
		held, size, e := crc.Unframe(b)
		if e != api.OK || size != len(b) || !bytes.Equal(held, bytes.Join(plainFields(f), nil)) {
			t.Errorf("kind %d: %x, %d, %d", kind, held, size, e)
		}
		if framed, _ := crc.Frame(held); !bytes.Equal(framed, b) {
			t.Errorf("kind %d: %x, but crc.Frame gives %x", kind, b, framed)
		}
		left := held
		for i := range f.Ops {
			o, _ := ops.Encode(f.Ops[len(f.Ops)-1-i])
			before, ok := bytes.CutSuffix(left, append(plainNum(int64(len(o))), o...))
			if !ok {
				t.Errorf("kind %d: %x does not end with operation %x", kind, left, o)
			}
			left = before
		}
	}
}

func TestEncodeLeavesOutZerosAtTheEnd(t *testing.T) { // P22.1
	for _, kind := range kinds() {
		want, _ := Encode(sample(kind))
		for _, zeros := range []int{1, 2, 60, 61, 5000} {
			f := sample(kind)
			f.Vec = append(f.Vec, make(api.Vector, zeros)...)
			for i := range f.Ops {
				f.Ops[i].Seen = append(f.Ops[i].Seen, make(api.Vector, zeros+i)...)
			}
			if b, e := Encode(f); e != api.OK || !bytes.Equal(b, want) {
				t.Errorf("kind %d, %d zeros: %x, %d; want %x", kind, zeros, b, e, want)
			}
		}
		wantRead(t, want, sample(kind), "what had no zeros at its ends")
	}
}

// bigOp gives an operation with as much Data as may be, whose bytes are more than 65,536.
func bigOp(seed noise) api.Op {
	o := sampleOp(api.KWrite)
	o.Data = seed.bytes(api.MaxFile, 255)
	return o
}

func TestOpsWithMuchData(t *testing.T) { // P22.1: an operation that may be has place in a frame, also if its bytes are more than codec's writer takes at once
	for _, size := range []int{65460, 65480, 65500, 65510, 65520, 65530, 65535, 65536} {
		f := sample(api.FOps)
		f.Ops[2] = bigOp(noise(size))
		f.Ops[2].Data = f.Ops[2].Data[:size]
		wantMay(t, f, true, fmt.Sprintf("an operation with %d bytes", size))
	}
	f := sample(api.FOps)
	for i := range 8 {
		f.Ops = []api.Op{}
		for range i + 1 {
			f.Ops = append(f.Ops, bigOp(noise(i)))
		}
		wantMay(t, f, true, fmt.Sprintf("%d operations with as much as may be", i+1))
	}
	f.Ops = append(f.Ops, bigOp(9))
	wantMay(t, f, false, "nine operations with as much as may be")
}

func TestTheGreatestFrame(t *testing.T) { // P22.1: each number takes as many bytes as it can
	f := api.Frame{Kind: api.FOps, From: 63, To: 62, Session: great, Seq: 1 << 30, Last: true, Vec: slices.Repeat(api.Vector{great}, 64)}
	for i := range 8 {
		o := bigOp(noise(i))
		o.Stamp, o.Obj, o.Seq = api.ID{Time: great, Node: 63}, api.ID{Time: great, Node: 62}, great
		o.Seen = slices.Repeat(api.Vector{great}, 64)
		o.Seen[63] = great - 1
		f.Ops = append(f.Ops, o)
	}
	wantMay(t, f, true, "the greatest frame")
	if b, _ := Encode(f); len(b) > 8+api.MaxFrame {
		t.Errorf("%d bytes", len(b))
	}
}

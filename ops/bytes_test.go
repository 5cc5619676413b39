package ops

import (
	"bytes"
	"encoding/hex"
	"fmt"
	"math"
	"slices"
	"strings"
	"testing"

	"lagoon/api"
)

func fromHex(t *testing.T, s string) []byte {
	t.Helper()
	b, err := hex.DecodeString(strings.ReplaceAll(s, " ", ""))
	if err != nil {
		t.Fatal(err)
	}
	return b
}

func TestEncodeByteForByte(t *testing.T) { // P12.1
	stamp := api.ID{Time: 300, Node: 2}
	seen := api.Vector{1, 0, 2, 0}
	last := api.ID{Time: great, Node: 63}
	for _, c := range []struct {
		o api.Op
		b string
	}{
		{api.Op{Kind: api.KDir, Stamp: stamp, Seq: 3, Obj: stamp, Name: "ab", Seen: seen}, "01 ac0202 03 ac0202 0000 026162 00 03010002"},
		{api.Op{Kind: api.KFile, Stamp: stamp, Seq: 3, Obj: stamp, Parent: api.ID{Time: 299, Node: 9}, Name: "f", Seen: seen}, "02 ac0202 03 ac0202 ab0209 0166 00 03010002"},
		{api.Op{Kind: api.KMove, Stamp: stamp, Seq: 3, Obj: api.ID{Time: 5, Node: 1}, Parent: Trash(), Name: "..f", Seen: seen}, "03 ac0202 03 0501 0001 032e2e66 00 03010002"},
		{api.Op{Kind: api.KMove, Stamp: stamp, Seq: 3, Obj: api.ID{Time: 5, Node: 1}, Parent: Root(), Name: "\xff", Seen: seen}, "03 ac0202 03 0501 0000 01ff 00 03010002"},
		{api.Op{Kind: api.KMove, Stamp: stamp, Seq: 3, Obj: api.ID{Time: 5, Node: 1}, Parent: api.ID{Time: 300, Node: 1}, Name: "x", Seen: seen}, "03 ac0202 03 0501 ac0201 0178 00 03010002"},
		{api.Op{Kind: api.KWrite, Stamp: stamp, Seq: 3, Obj: api.ID{Time: 128, Node: 7}, Data: []byte("text"), Seen: seen}, "04 ac0202 03 800107 0000 00 0474657874 03010002"},
		{api.Op{Kind: api.KWrite, Stamp: api.ID{Time: 1, Node: 1}, Seq: 1, Obj: api.ID{Time: 1}}, "04 0101 01 0100 0000 00 00 00"},
		{api.Op{Kind: api.KDir, Stamp: last, Seq: great, Obj: last, Name: "a", Seen: at(63, great-1)}, "01 8080808080808080103f 808080808080808010 8080808080808080103f 0000 0161 00 40" + strings.Repeat("00", 63) + "ffffffffffffffff0f"},
	} {
		want := fromHex(t, c.b)
		if b, e := Encode(c.o); e != api.OK || !bytes.Equal(b, want) {
			t.Errorf("Encode of %+v: %x, %d; want %x", c.o, b, e, want)
		}
		if n := Cost(c.o); n != len(want) {
			t.Errorf("Cost of %+v: %d, want %d", c.o, n, len(want))
		}
		wantRead(t, want, c.o, "these bytes")
	}
}

func TestEncodeLeavesOutZerosAtTheEnd(t *testing.T) { // P12.1, P12.2
	for _, kind := range kinds() {
		want, _ := Encode(sample(kind))
		for _, zeros := range []int{1, 2, 59, 60, 5000} {
			o := sample(kind)
			o.Seen = append(o.Seen, make(api.Vector, zeros)...)
			if b, e := Encode(o); e != api.OK || !bytes.Equal(b, want) || Cost(o) != len(want) {
				t.Errorf("kind %d, %d zeros: %x, %d, Cost %d; want %x", kind, zeros, b, e, Cost(o), want)
			}
		}
		if o, e := Decode(want); e != api.OK || !slices.Equal(o.Seen, sample(kind).Seen) {
			t.Errorf("kind %d: Seen %v, %d", kind, o.Seen, e)
		}
	}
}

func TestDecodeOfNothing(t *testing.T) { // P12.1
	wantRefused(t, nil, "nil")
	wantRefused(t, []byte{}, "no bytes")
	wantRefused(t, []byte{0}, "a zero")
	wantRefused(t, make([]byte, 10), "the zero operation")
	wantRefused(t, make([]byte, 100000), "zeros")
}

func TestDecodeOfEachCut(t *testing.T) { // P12.1
	for _, kind := range kinds() {
		b := plainOp(sample(kind))
		for size := range b {
			wantRefused(t, b[:size], "a cut")
			wantRefused(t, b[size+1:], "a cut at the front")
		}
		for size := range b {
			for end := size + 1; end < len(b); end++ {
				wantDecode(t, slices.Concat(b[:size], b[end:]))
			}
		}
	}
}

func TestDecodeOfOneByteMore(t *testing.T) { // P12.1
	for _, kind := range kinds() {
		b := plainOp(sample(kind))
		for x := range 256 {
			wantRefused(t, append(bytes.Clone(b), byte(x)), "one byte more")
			for i := range b {
				wantDecode(t, slices.Insert(bytes.Clone(b), i, byte(x)))
			}
		}
		wantRefused(t, append(bytes.Clone(b), b...), "two of them")
	}
}

// wantDecode sees that Decode says of b what the Words say.
func wantDecode(t *testing.T, b []byte) bool {
	t.Helper()
	o, ok := plainDecode(b)
	if ok {
		wantRead(t, b, o, "what may be")
	} else {
		wantRefused(t, b, "what may not be")
	}
	return ok
}

func TestDecodeOfEachByteChanged(t *testing.T) { // P12.1
	for _, kind := range kinds() {
		o := sample(kind)
		b := plainOp(o)
		fine := 0
		for i := range b {
			for x := range 256 {
				changed := bytes.Clone(b)
				changed[i] = byte(x)
				if wantDecode(t, changed) {
					fine++
				}
				if k, e := Decode(changed); e == api.OK && Eq(k, o) != (x == int(b[i])) {
					t.Errorf("kind %d: byte %d as %d reads as the same", kind, i, x)
				}
			}
		}
		if fine <= len(b) {
			t.Errorf("kind %d: just %d may be", kind, fine)
		}
	}
}

func TestDecodeOfNoise(t *testing.T) { // P12.1, P0.1
	for seed := range uint64(20000) {
		b := noise(seed, int(seed%60))
		wantDecode(t, b)
		for i := range b {
			b[i] %= 5
		}
		wantDecode(t, b)
	}
}

// longer writes the number with which b begins with one byte more than need be.
func longer(b []byte) []byte {
	end := slices.IndexFunc(b, func(x byte) bool { return x < 128 })
	return slices.Concat(b[:end], []byte{b[end] | 128, 0}, b[end+1:])
}

func TestNumbersLongerThanNeedBe(t *testing.T) { // P12.1
	for _, kind := range kinds() {
		for i := range plainFields(sample(kind)) {
			fields := plainFields(sample(kind))
			fields[i] = longer(fields[i])
			wantRefused(t, bytes.Join(fields, nil), fmt.Sprintf("field %d longer", i))
		}
		for i, id := range map[int]api.ID{atStamp: sample(kind).Stamp, atObj: sample(kind).Obj, atParent: sample(kind).Parent} {
			fields := plainFields(sample(kind))
			fields[i] = append(plainNum(id.Time), longer(plainNum(int64(id.Node)))...)
			wantRefused(t, bytes.Join(fields, nil), fmt.Sprintf("node of field %d longer", i))
		}
		fields := plainFields(sample(kind))
		fields[atSeen] = append(fields[atSeen][:len(fields[atSeen])-1], 0x81, 0)
		wantRefused(t, bytes.Join(fields, nil), "last number of Seen longer")
	}
}

func TestSeenNotInNormalForm(t *testing.T) { // P12.1
	for _, kind := range kinds() {
		for _, zeros := range []int{1, 2, 59, 60, 200} {
			fields := plainFields(sample(kind))
			fields[atSeen] = plainVector(append(sample(kind).Seen, make(api.Vector, zeros)...))
			wantRefused(t, bytes.Join(fields, nil), fmt.Sprintf("Seen with %d zeros", zeros))
		}
		o := first(kind, api.ID{Time: 9, Node: 4})
		wantRead(t, plainOp(o), o, "Seen of nothing")
		for zeros := 1; zeros < 70; zeros++ {
			fields := plainFields(o)
			fields[atSeen] = plainVector(make(api.Vector, zeros))
			wantRefused(t, bytes.Join(fields, nil), fmt.Sprintf("Seen of %d zeros", zeros))
		}
	}
}

func TestFieldsThatCannotBeRead(t *testing.T) { // P12.1, P0.1
	huge := [][]byte{plainNum(1 << 62), plainNum(1<<62 + 1), plainNum(math.MaxInt64), append(bytes.Repeat([]byte{0xff}, 9), 1), append(bytes.Repeat([]byte{0x80}, 9), 2), append(bytes.Repeat([]byte{0xff}, 30), 1), bytes.Repeat([]byte{0x80}, 40)}
	for _, kind := range kinds() {
		for i := range plainFields(sample(kind)) {
			for _, n := range huge {
				fields := plainFields(sample(kind))
				fields[i] = append(bytes.Clone(n), fields[i][1:]...)
				wantRefused(t, bytes.Join(fields, nil), fmt.Sprintf("field %d huge", i))
				fields[i] = n
				wantRefused(t, bytes.Join(fields, nil), fmt.Sprintf("field %d huge alone", i))
			}
			fields := plainFields(sample(kind))
			wantRefused(t, bytes.Join(slices.Delete(fields, i, i+1), nil), fmt.Sprintf("field %d left out", i))
		}
		for _, size := range []int{65536, 65537} {
			fields := plainFields(sample(kind))
			fields[atName] = plainBytes(bytes.Repeat([]byte("a"), size))
			wantRefused(t, bytes.Join(fields, nil), "a long name")
			fields = plainFields(sample(kind))
			fields[atSeen] = plainVector(slices.Repeat(api.Vector{6}, 65))
			wantRefused(t, bytes.Join(fields, nil), "a long vector")
		}
	}
}

func TestFieldsInAnotherOrder(t *testing.T) { // P12.1
	for _, kind := range kinds() {
		for i := range 8 {
			for j := range i {
				fields := plainFields(sample(kind))
				fields[i], fields[j] = fields[j], fields[i]
				wantDecode(t, bytes.Join(fields, nil))
			}
		}
	}
}

func TestDecodeGivesWhatEncodeWasGiven(t *testing.T) { // P12.1
	for kind := range 6 {
		everyOp(kind, func(o api.Op) {
			if !hasNegative(o) && wantDecode(t, plainOp(o)) != plainMay(o) {
				t.Errorf("Decode of %+v", o)
			}
		})
	}
}

func TestCostWhereNumbersGrow(t *testing.T) { // P12.2
	for _, size := range []int{0, 1, 127, 128, 16383, 16384, 65536, 65537} {
		o := sample(api.KWrite)
		o.Data = make([]byte, size)
		want := len(plainOp(o))
		if size > 65536 {
			want = 0
		}
		if got := Cost(o); got != want {
			t.Errorf("Cost with %d bytes: %d, want %d", size, got, want)
		}
	}
	for _, kind := range kinds() {
		o := sample(kind)
		o.Seq = great + 1
		if got := Cost(o); got != 0 {
			t.Errorf("Cost of kind %d, which may not be: %d", kind, got)
		}
	}
}

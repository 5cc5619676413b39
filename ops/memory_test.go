package ops

import (
	"bytes"
	"slices"
	"testing"

	"lagoon/api"
)

// roomy gives a sample whose lists have spare room, which holds something, and a look at their whole memory.
func roomy(kind int) (api.Op, func() string) {
	o := sample(kind)
	data := append(bytes.Clone(o.Data), noise(1, 40)...)
	seen := append(slices.Clone(o.Seen), 0, 0, 11, 12, 13)
	o.Data, o.Seen = data[:len(o.Data)], seen[:len(o.Seen)+2]
	return o, func() string { return string(data) + string(plainVector(seen)) }
}

func TestNothingHandedInIsChanged(t *testing.T) { // P0.3
	for _, kind := range append(kinds(), 9) {
		o, memory := roomy(kind)
		k, other := roomy(kind)
		before := memory()
		Encode(o)
		May(o)
		Cost(o)
		if !Eq(o, k) {
			t.Errorf("kind %d: not the same", kind)
		}
		if memory() != before || other() != before {
			t.Errorf("kind %d: what was handed in is changed", kind)
		}
	}
	for _, kind := range kinds() {
		whole := append(plainOp(sample(kind)), noise(2, 40)...)
		before := bytes.Clone(whole)
		b := whole[:len(whole)-40]
		Decode(b)
		Decode(b[:len(b)-1])
		if !bytes.Equal(whole, before) {
			t.Errorf("kind %d: the bytes handed in are changed", kind)
		}
	}
}

func TestEncodeGivesNewMemory(t *testing.T) { // P0.3
	for _, kind := range kinds() {
		o, memory := roomy(kind)
		before := memory()
		want := plainOp(o)
		b, _ := Encode(o)
		c, _ := Encode(o)
		spoil(b)
		if memory() != before || !bytes.Equal(c, want) {
			t.Errorf("kind %d: writing into an answer changed another, or the operation", kind)
		}
		spoil(o.Data)
		spoilNumbers(o.Seen)
		if !bytes.Equal(c, want) {
			t.Errorf("kind %d: writing into the operation changed an answer", kind)
		}
	}
}

func TestDecodeGivesNewMemory(t *testing.T) { // P0.3
	for _, kind := range kinds() {
		want := sample(kind)
		b := plainOp(want)
		o, _ := Decode(b)
		k, _ := Decode(b)
		spoil(o.Data)
		if !slices.Equal(o.Seen, want.Seen) || o.Name != want.Name {
			t.Errorf("kind %d: writing into Data changed Seen or Name", kind)
		}
		spoilNumbers(o.Seen)
		if !plainEq(k, want) || !bytes.Equal(b, plainOp(want)) {
			t.Errorf("kind %d: writing into an answer changed another, or the bytes", kind)
		}
		spoil(b)
		if !plainEq(k, want) {
			t.Errorf("kind %d: writing into the bytes changed an answer", kind)
		}
	}
}

func TestCallsKnowNothingOfEachOther(t *testing.T) { // P0.5
	for range 3 {
		for _, kind := range kinds() {
			o := sample(kind)
			Encode(api.Op{})
			Decode([]byte{1, 2, 3})
			wantMay(t, o, true, "again")
			o.Seq++
			wantMay(t, o, false, "again, wrong")
		}
	}
}

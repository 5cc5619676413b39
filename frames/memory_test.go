package frames

import (
	"bytes"
	"slices"
	"testing"

	"lagoon/api"
)

// spoil writes over b, spare room too.
func spoil(b []byte) {
	b = b[:cap(b)]
	for i := range b {
		b[i] ^= 0xff
	}
}

func spoilNumbers(v api.Vector) {
	v = v[:cap(v)]
	for i := range v {
		v[i] ^= 0xff
	}
}

func spoilOps(all []api.Op) {
	all = all[:cap(all)]
	for i := range all {
		all[i] = api.Op{Seq: -1, Name: "spoilt"}
	}
}

// roomy gives a frame with five operations whose lists have spare room, which holds something, and a look at their whole memory.
func roomy(kind int) (api.Frame, func() string) {
	f := sample(kind)
	vec := append(slices.Clone(f.Vec), 0, 0, 11, 12, 13)
	f.Vec = vec[:len(f.Vec)+2]
	if kind != api.FOps {
		return f, func() string { return string(plainVector(vec)) }
	}
	all := sampleOps(7)
	f.Ops = all[:5]
	n := noise(5)
	var data [][]byte
	var seen []api.Vector
	for i := range all {
		data = append(data, append(bytes.Clone(all[i].Data), n.bytes(20, 255)...))
		seen = append(seen, append(slices.Clone(all[i].Seen), 0, 0, 11, 12, 13))
		all[i].Data, all[i].Seen = data[i][:len(all[i].Data)], seen[i][:len(all[i].Seen)+2]
	}
	return f, func() string {
		memory := string(plainVector(vec)) + string(bytes.Join(data, nil))
		for i, o := range all {
			memory += string(plainVector(seen[i])) + string(plainOp(o))
		}
		return memory
	}
}

func TestNothingHandedInIsChanged(t *testing.T) { // P0.3
	for _, kind := range kinds() {
		f, memory := roomy(kind)
		before := memory()
		if _, e := Encode(f); e != api.OK || !May(f) {
			t.Errorf("kind %d: %d", kind, e)
		}
		f.Session = 0
		Encode(f)
		May(f)
		if memory() != before {
			t.Errorf("kind %d: the frame handed in is changed", kind)
		}
		written := plainFrame(sample(kind))
		n := noise(kind)
		whole := append(bytes.Clone(written), n.bytes(40, 255)...)
		kept := bytes.Clone(whole)
		Decode(whole[:len(written)])
		Decode(whole[:len(written)-1])
		Decode(whole)
		if !bytes.Equal(whole, kept) {
			t.Errorf("kind %d: the bytes handed in are changed", kind)
		}
	}
}

func TestEncodeGivesNewMemory(t *testing.T) { // P0.3
	for _, kind := range kinds() {
		f, memory := roomy(kind)
		before, want := memory(), plainFrame(f)
		b, _ := Encode(f)
		c, _ := Encode(f)
		spoil(b)
		if memory() != before || !bytes.Equal(c, want) {
			t.Errorf("kind %d: writing into an answer changed another, or the frame", kind)
		}
		for _, o := range f.Ops {
			spoil(o.Data)
			spoilNumbers(o.Seen)
		}
		spoilOps(f.Ops)
		spoilNumbers(f.Vec)
		if !bytes.Equal(c, want) {
			t.Errorf("kind %d: writing into the frame changed an answer", kind)
		}
	}
}

func TestDecodeGivesNewMemory(t *testing.T) { // P0.3
	for _, kind := range kinds() {
		want := sample(kind)
		b := plainFrame(want)
		f, _ := Decode(b)
		g, _ := Decode(b)
		spoilNumbers(f.Vec)
		f.Vec = want.Vec
		for i := range f.Ops {
			spoil(f.Ops[i].Data)
			f.Ops[i].Data = want.Ops[i].Data
			spoilNumbers(f.Ops[i].Seen)
			f.Ops[i].Seen = want.Ops[i].Seen
			if !same(f, want) {
				t.Errorf("kind %d: writing into a list of operation %d changed another list", kind, i)
			}
		}
		spoilOps(f.Ops)
		if !same(g, want) || !bytes.Equal(b, plainFrame(want)) {
			t.Errorf("kind %d: writing into an answer changed another, or the bytes", kind)
		}
		spoil(b)
		if !same(g, want) {
			t.Errorf("kind %d: writing into the bytes changed an answer", kind)
		}
	}
}

func TestNilListsAreAsEmptyOnes(t *testing.T) { // P0.4
	for _, kind := range kinds() {
		f := api.Frame{Kind: kind, To: 1, Session: 1}
		g := f
		g.Vec, g.Ops = api.Vector{}, []api.Op{}
		wantMay(t, f, true, "nil lists")
		wantMay(t, g, true, "empty lists")
		b, _ := Encode(f)
		if c, _ := Encode(g); !bytes.Equal(b, c) {
			t.Errorf("kind %d: %x, %x", kind, b, c)
		}
	}
}

func TestCallsKnowNothingOfEachOther(t *testing.T) { // P0.5
	for range 3 {
		for _, kind := range kinds() {
			f := sample(kind)
			Encode(api.Frame{})
			Decode([]byte{1, 2, 3})
			Decode(plainFrame(sample(api.FOps)))
			wantMay(t, f, true, "again")
			f.Session = 0
			wantMay(t, f, false, "again, wrong")
		}
	}
}

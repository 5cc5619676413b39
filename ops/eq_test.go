package ops

import (
	"math"
	"slices"
	"testing"

	"lagoon/api"
)

func wantEq(t *testing.T, a, b api.Op, want bool, why string) {
	t.Helper()
	if Eq(a, b) != want || Eq(b, a) != want {
		t.Errorf("%s: Eq %v and %v, want %v", why, Eq(a, b), Eq(b, a), want)
	}
}

// change is a change of one field.
type change struct {
	what string
	turn func(o *api.Op)
}

func changes() []change {
	return []change{
		{"Stamp.Time", func(o *api.Op) { o.Stamp.Time++ }},
		{"Stamp.Time, far", func(o *api.Op) { o.Stamp.Time += 1 << 32 }},
		{"Stamp.Node", func(o *api.Op) { o.Stamp.Node++ }},
		{"Stamp.Node, far", func(o *api.Op) { o.Stamp.Node += 1 << 32 }},
		{"Seq", func(o *api.Op) { o.Seq++ }},
		{"Seq, far", func(o *api.Op) { o.Seq += 1 << 32 }},
		{"Kind", func(o *api.Op) { o.Kind++ }},
		{"Kind, far", func(o *api.Op) { o.Kind += 1 << 32 }},
		{"Obj.Time", func(o *api.Op) { o.Obj.Time++ }},
		{"Obj.Node", func(o *api.Op) { o.Obj.Node++ }},
		{"Parent.Time", func(o *api.Op) { o.Parent.Time++ }},
		{"Parent.Node", func(o *api.Op) { o.Parent.Node++ }},
		{"Name, longer", func(o *api.Op) { o.Name += "c" }},
		{"Name, longer by a zero", func(o *api.Op) { o.Name += "\x00" }},
		{"Name, of a file that clashes", func(o *api.Op) { o.Name = o.Name + "\x01" }},
		{"Name, another", func(o *api.Op) { o.Name = "aB" }},
		{"Data, longer", func(o *api.Op) { o.Data = append(slices.Clone(o.Data), 'x') }},
		{"Data, longer by a zero", func(o *api.Op) { o.Data = append(slices.Clone(o.Data), 0) }},
		{"Data, another", func(o *api.Op) { o.Data = []byte("texT") }},
		{"Seen, its own number", func(o *api.Op) { o.Seen = slices.Clone(o.Seen); o.Seen[3]++ }},
		{"Seen, the first", func(o *api.Op) { o.Seen = slices.Clone(o.Seen); o.Seen[0]++ }},
		{"Seen, the last", func(o *api.Op) { o.Seen = o.Seen[:4] }},
		{"Seen, one more", func(o *api.Op) { o.Seen = append(slices.Clone(o.Seen), 1) }},
		{"Seen, the 64th", func(o *api.Op) { o.Seen = append(append(slices.Clone(o.Seen), make(api.Vector, 58)...), 1) }},
		{"Seen, none", func(o *api.Op) { o.Seen = nil }},
	}
}

func TestEqWhereOneFieldDiffers(t *testing.T) { // P12.2
	for _, kind := range append(kinds(), 0, 9) {
		wantEq(t, sample(kind), sample(kind), true, "the same")
		for _, c := range changes() {
			o := sample(kind)
			c.turn(&o)
			wantEq(t, sample(kind), o, false, c.what)
			wantEq(t, o, o, true, c.what)
			k := sample(kind)
			c.turn(&k)
			wantEq(t, o, k, true, c.what)
		}
	}
	for i, a := range kinds() {
		for j, b := range kinds() {
			wantEq(t, sample(a), sample(b), i == j, "kinds")
		}
	}
}

func TestEqOfTheZeroOperation(t *testing.T) { // P12.2
	wantEq(t, api.Op{}, api.Op{}, true, "zero")
	wantEq(t, api.Op{}, api.Op{Data: []byte{}, Seen: api.Vector{}}, true, "empty lists")
	wantEq(t, api.Op{}, sample(api.KDir), false, "zero against a sample")
	wantEq(t, api.Op{Seq: math.MinInt64, Kind: math.MaxInt}, api.Op{Seq: math.MinInt64, Kind: math.MaxInt}, true, "edges")
}

func TestEqOfLists(t *testing.T) { // P12.2
	for _, kind := range kinds() {
		a, b := sample(kind), sample(kind)
		for _, zeros := range []int{1, 59, 60, 5000} {
			b.Seen = append(sample(kind).Seen, make(api.Vector, zeros)...)
			wantEq(t, a, b, true, "zeros at the end of Seen")
		}
		a.Seen, b.Seen = nil, api.Vector{}
		wantEq(t, a, b, true, "Seen nil against empty")
		b.Seen = make(api.Vector, 70)
		wantEq(t, a, b, true, "Seen nil against zeros")
		a.Data, b.Data = nil, []byte{}
		wantEq(t, a, b, true, "Data nil against empty")
		b.Data = []byte{0}
		wantEq(t, a, b, false, "Data nil against a zero")
		a.Data, b.Data = make([]byte, 1<<17), make([]byte, 1<<17)
		wantEq(t, a, b, true, "much Data")
		b.Data[1<<17-1] = 1
		wantEq(t, a, b, false, "much Data, the last byte another")
	}
}

func TestEqOfSeenThatMayNotBe(t *testing.T) { // P12.2: as vectors, so as doc/04 takes any list
	a, b := sample(api.KDir), sample(api.KDir)
	for _, v := range []api.Vector{{-1}, {great + 1}, {0, math.MinInt64}, at(64, 1), at(5000, math.MaxInt64)} {
		a.Seen, b.Seen = v, nil
		wantEq(t, a, b, true, "numbers that count as 0")
		b.Seen = slices.Clone(v)
		wantEq(t, a, b, true, "the same list")
		b.Seen = api.Vector{0, 0, 1}
		wantEq(t, a, b, false, "another vector")
	}
}

func TestEqOfWhatWasReadAgain(t *testing.T) { // P12.1, P12.2
	for _, kind := range kinds() {
		o := sample(kind)
		o.Seen = append(o.Seen, 0, 0)
		b, _ := Encode(o)
		k, e := Decode(b)
		if e != api.OK || !plainEq(o, k) {
			t.Errorf("kind %d: %+v, %d", kind, k, e)
		}
		wantEq(t, o, k, true, "what was read again")
		for _, c := range changes() {
			k := k
			c.turn(&k)
			wantEq(t, o, k, false, c.what)
		}
	}
}

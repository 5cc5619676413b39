package frames

import (
	"fmt"
	"math"
	"slices"
	"testing"

	"lagoon/api"
)

func TestSamples(t *testing.T) { // P22.1
	for _, kind := range kinds() {
		wantMay(t, sample(kind), true, "a sample")
		bare := sample(kind)
		bare.Seq, bare.Last, bare.Vec, bare.Ops = 0, false, nil, nil
		wantMay(t, bare, true, "nothing but where from and where to")
	}
	wantMay(t, api.Frame{}, false, "the zero frame")
}

func TestKinds(t *testing.T) { // Words
	for _, kind := range []int{math.MinInt, math.MinInt32, -1, 0, 1, 2, 3, 4, 5, 6, 127, 128, 256 + api.FOps, 1<<32 + api.FOps, 1<<62 + 1, math.MaxInt} {
		bare := api.Frame{Kind: kind, To: 1, Session: 1}
		wantMay(t, bare, kind >= 1 && kind <= 4, "bare")
		f := sample(api.FOps)
		f.Kind = kind
		wantMay(t, f, kind == api.FOps, "with what FOps has")
	}
}

func TestFromAndTo(t *testing.T) { // Words
	nodes := []int{math.MinInt, -64, -1, 0, 1, 62, 63, 64, 65, 128, 256, 1 << 32, 1<<32 + 1, math.MaxInt}
	for _, kind := range kinds() {
		for _, from := range nodes {
			for _, to := range nodes {
				f := sample(kind)
				f.From, f.To = from, to
				fine := from >= 0 && from <= 63 && to >= 0 && to <= 63 && from != to
				wantMay(t, f, fine, fmt.Sprintf("from %d to %d", from, to))
			}
		}
		for node := range 64 {
			f := sample(kind)
			f.From, f.To = node, node
			wantMay(t, f, false, "to itself")
			f.To = 63 - node
			wantMay(t, f, true, "to another one")
		}
	}
}

func TestSessions(t *testing.T) { // Words
	for _, kind := range kinds() {
		for _, n := range []int64{math.MinInt64, -great, -1, 0, 1, 2, 127, 128, 1 << 32, great - 1, great, great + 1, great + 2, 1 << 62, 1<<62 + 1, math.MaxInt64} {
			f := sample(kind)
			f.Session = n
			wantMay(t, f, n >= 1 && n <= great, fmt.Sprintf("Session %d", n))
		}
	}
}

func TestSeqs(t *testing.T) { // Words
	for _, kind := range kinds() {
		for _, n := range []int{math.MinInt, -1 << 32, -1, 0, 1, 2, 127, 128, 1<<30 - 1, 1 << 30, 1<<30 + 1, 1 << 31, 1 << 32, 1<<32 + 1, 1 << 62, math.MaxInt} {
			f := sample(kind)
			f.Seq = n
			fine := n >= 0 && n <= 1<<30 && (kind == api.FOps || kind == api.FAck)
			wantMay(t, f, fine || n == 0, fmt.Sprintf("Seq %d", n))
		}
	}
}

func TestVectors(t *testing.T) { // Words
	full := slices.Repeat(api.Vector{great}, 64)
	for _, kind := range kinds() {
		for i, v := range []api.Vector{nil, {}, {0}, {0, 0}, {0, 1}, {1, 0, 0}, {great}, full, at(63, 1), at(63, great), make(api.Vector, 64), make(api.Vector, 65), make(api.Vector, 5000), append(slices.Clone(full), 0), append(slices.Clone(full), make(api.Vector, 5000)...)} {
			f := sample(kind)
			f.Vec = v
			wantMay(t, f, true, fmt.Sprintf("vector %d that may be", i))
		}
		for i, v := range []api.Vector{{-1}, {great + 1}, {math.MinInt64}, {math.MaxInt64}, {1, -1, 1}, {1, great + 1}, at(63, -1), at(63, great+1), at(64, 1), at(64, -1), at(5000, 1), append(slices.Clone(full), 1), append(slices.Clone(full), 0, 1), {1 << 62}, {1<<62 + 1}} {
			f := sample(kind)
			f.Vec = v
			wantMay(t, f, false, fmt.Sprintf("vector %d that may not be", i))
		}
	}
}

func TestCountsOfOps(t *testing.T) { // Words
	for _, kind := range kinds() {
		for n := range 20 {
			f := sample(kind)
			f.Ops = sampleOps(n)
			wantMay(t, f, n == 0 || n <= 8 && kind == api.FOps, fmt.Sprintf("%d operations", n))
		}
		f := sample(kind)
		f.Ops = nil
		wantMay(t, f, true, "nil operations")
		f.Ops = sampleOps(5000)
		wantMay(t, f, false, "5000 operations")
	}
}

func TestTheSameOpManyTimes(t *testing.T) { // Words
	for kind := range 5 {
		f := sample(api.FOps)
		f.Ops = slices.Repeat([]api.Op{sampleOp(kind)}, 8)
		wantMay(t, f, kind != 0, "eight times")
		f.Ops = append(f.Ops, sampleOp(kind))
		wantMay(t, f, false, "nine times")
	}
}

// wrongOps has operations that may not be, each for another reason.
func wrongOps() []api.Op {
	wrong := []api.Op{{}}
	for _, turn := range []func(o *api.Op){
		func(o *api.Op) { o.Kind = 5 },
		func(o *api.Op) { o.Kind = -1 },
		func(o *api.Op) { o.Stamp.Node = 64 },
		func(o *api.Op) { o.Stamp.Time = 0 },
		func(o *api.Op) { o.Seq++ },
		func(o *api.Op) { o.Seq = great + 1 },
		func(o *api.Op) { o.Obj = api.ID{Time: 500, Node: 4} },
		func(o *api.Op) { o.Parent = api.ID{Node: 2} },
		func(o *api.Op) { o.Name += "/" },
		func(o *api.Op) { o.Data = make([]byte, 65537) },
		func(o *api.Op) { o.Seen = append(o.Seen, -1) },
		func(o *api.Op) { o.Seen = append(o.Seen, make(api.Vector, 59)...); o.Seen = append(o.Seen, 1) },
	} {
		for kind := range 4 {
			o := sampleOp(kind + 1)
			turn(&o)
			wrong = append(wrong, o)
		}
	}
	return wrong
}

func TestWrongOpAtEachPlace(t *testing.T) { // Words
	for i, wrong := range wrongOps() {
		for n := 1; n <= 8; n++ {
			for place := range n {
				f := sample(api.FOps)
				f.Ops = sampleOps(n)
				f.Ops[place] = wrong
				wantMay(t, f, false, fmt.Sprintf("wrong operation %d at %d of %d", i, place, n))
			}
		}
	}
}

func TestOpsWithZerosAtTheEndOfSeen(t *testing.T) { // P22.1
	for place := range 8 {
		f := sample(api.FOps)
		f.Ops = sampleOps(8)
		f.Ops[place].Seen = append(f.Ops[place].Seen, make(api.Vector, 100)...)
		wantMay(t, f, true, fmt.Sprintf("zeros at the end of the Seen of operation %d", place))
	}
}

func TestLast(t *testing.T) { // Words
	for _, kind := range kinds() {
		for _, seq := range []int{0, 1} {
			f := api.Frame{Kind: kind, From: 63, Session: great, Seq: seq, Last: true}
			wantMay(t, f, kind == api.FOps, fmt.Sprintf("Last with Seq %d", seq))
			f.Last = false
			wantMay(t, f, seq == 0 || kind == api.FOps || kind == api.FAck, fmt.Sprintf("not Last, with Seq %d", seq))
		}
	}
}

func TestTwoThingsWrongAtOnce(t *testing.T) { // P22.1
	turns := []func(f *api.Frame){
		func(f *api.Frame) { f.Kind = 5 },
		func(f *api.Frame) { f.From = 64 },
		func(f *api.Frame) { f.To = f.From },
		func(f *api.Frame) { f.Session = 0 },
		func(f *api.Frame) { f.Seq = 1<<30 + 1 },
		func(f *api.Frame) { f.Vec = at(64, 1) },
		func(f *api.Frame) { f.Ops = sampleOps(9) },
		func(f *api.Frame) { f.Ops = []api.Op{{}} },
	}
	for _, kind := range kinds() {
		for _, a := range turns {
			for _, b := range turns {
				f := sample(kind)
				a(&f)
				b(&f)
				wantMay(t, f, false, "two things wrong")
			}
		}
	}
}

package frames

import (
	"bytes"
	"fmt"
	"math"
	"slices"
	"testing"

	"lagoon/api"
)

func TestDecodeOfNothing(t *testing.T) { // P22.1
	wantRefused(t, nil, "nil")
	wantRefused(t, []byte{}, "no bytes")
	for size := range 40 {
		wantRefused(t, make([]byte, size), "zeros")
		wantRefused(t, wired(make([]byte, size)), "zeros in a good frame")
		wantRefused(t, bytes.Repeat([]byte{0xff}, size), "ones")
		wantRefused(t, wired(bytes.Repeat([]byte{0xff}, size)), "ones in a good frame")
	}
	wantRefused(t, wired(), "a good frame of nothing")
	wantRefused(t, make([]byte, 100000), "many zeros")
}

func TestDecodeOfEachCut(t *testing.T) { // P22.1
	for _, kind := range kinds() {
		b := plainFrame(sample(kind))
		for size := range b {
			wantRefused(t, b[:size], "a prefix")
			wantRefused(t, b[size+1:], "a cut at the front")
		}
		held := b[8:]
		for size := range held {
			wantRefused(t, wired(held[:size]), "a prefix in a good frame")
			wantDecode(t, wired(held[size+1:]))
			for end := size + 1; end < min(len(held), size+30); end++ {
				wantDecode(t, wired(held[:size], held[end:]))
			}
		}
	}
}

func TestDecodeOfBytesBehind(t *testing.T) { // P22.1
	for _, kind := range kinds() {
		b := plainFrame(sample(kind))
		for x := range 256 {
			wantRefused(t, append(bytes.Clone(b), byte(x)), "a byte behind the frame")
			wantRefused(t, append([]byte{byte(x)}, b...), "a byte ahead of the frame")
			wantRefused(t, wired(b[8:], []byte{byte(x)}), "a byte behind the words")
			wantRefused(t, wired([]byte{byte(x)}, b[8:]), "a byte ahead of the words")
		}
		wantRefused(t, append(bytes.Clone(b), b...), "the frame twice")
		wantRefused(t, wired(b), "a frame in a frame")
		wantRefused(t, wired(b[8:], b[8:]), "the words twice")
		wantRefused(t, b[8:], "the words alone")
		o := plainBytes(plainOp(sampleOp(api.KDir)))
		wantRefused(t, wired(b[8:], o), "an operation more than were counted")
	}
}

func TestDecodeOfEachByteChanged(t *testing.T) { // P22.1
	for _, kind := range kinds() {
		b := plainFrame(sample(kind))
		for i := range b {
			for x := range 256 {
				if byte(x) == b[i] {
					continue
				}
				changed := bytes.Clone(b)
				changed[i] = byte(x)
				wantRefused(t, changed, fmt.Sprintf("byte %d as %d", i, x))
			}
		}
	}
}

func TestDecodeOfEachByteChangedInAGoodFrame(t *testing.T) { // P22.1
	for _, kind := range kinds() {
		held := plainFrame(sample(kind))[8:]
		fine := 0
		for i := range held {
			for x := range 256 {
				changed := bytes.Clone(held)
				changed[i] = byte(x)
				if wantDecode(t, wired(changed)) {
					fine++
				}
				inserted := slices.Insert(bytes.Clone(held), i, byte(x))
				wantDecode(t, wired(inserted))
			}
		}
		if fine <= len(held) {
			t.Errorf("kind %d: just %d may be", kind, fine)
		}
	}
}

func TestDecodeOfAnotherSum(t *testing.T) { // P22.1
	for _, kind := range kinds() {
		b := plainFrame(sample(kind))
		clear(b[4:8])
		wantRefused(t, b, "no sum")
		b = plainFrame(sample(kind))
		slices.Reverse(b[4:8])
		wantRefused(t, b, "the sum turned round")
		b = plainFrame(sample(kind))
		slices.Reverse(b[:4])
		wantRefused(t, b, "the length turned round")
	}
}

func TestDecodeOfLengthsThatAreNone(t *testing.T) { // P22.1
	for _, size := range []uint32{0, 1, 8, api.MaxFrame, api.MaxFrame + 1, 1 << 31, math.MaxUint32} {
		b := plainFrame(sample(api.FAck))
		for i := range 4 {
			b[i] = byte(size >> (8 * i))
		}
		wantRefused(t, b, fmt.Sprintf("length %d", size))
	}
	words := bytes.Join(plainFields(sample(api.FAck)), nil)
	wantRefused(t, wired(words, make([]byte, api.MaxFrame-len(words))), "as long as a frame may be")
	wantRefused(t, wired(words, make([]byte, api.MaxFrame)), "longer than a frame may be")
}

func TestDecodeOfNoise(t *testing.T) { // P22.1, P0.1
	for seed := range 20000 {
		n := noise(seed)
		for _, most := range []int{255, 4, 1} {
			b := n.bytes(n.below(60), most)
			wantDecode(t, b)
			wantDecode(t, wired(b))
		}
	}
}

// longer writes the number with which b begins with one byte more than need be.
func longer(b []byte) []byte {
	end := slices.IndexFunc(b, func(x byte) bool { return x < 128 })
	return slices.Concat(b[:end], []byte{b[end] | 128, 0}, b[end+1:])
}

func TestNumbersLongerThanNeedBe(t *testing.T) { // P22.1
	for _, kind := range kinds() {
		for i := range plainFields(sample(kind)) {
			fields := plainFields(sample(kind))
			fields[i] = longer(fields[i])
			wantRefused(t, wired(fields...), fmt.Sprintf("field %d longer", i))
		}
		fields := plainFields(sample(kind))
		fields[atVec] = append(fields[atVec][:2], longer(fields[atVec][2:])...)
		wantRefused(t, wired(fields...), "a number of the vector longer")
	}
}

func TestVectorsNotInNormalForm(t *testing.T) { // P22.1
	for _, kind := range kinds() {
		for _, zeros := range []int{1, 2, 60, 61, 62, 200} {
			fields := plainFields(sample(kind))
			fields[atVec] = plainVector(append(sample(kind).Vec, make(api.Vector, zeros)...))
			wantRefused(t, wired(fields...), fmt.Sprintf("Vec with %d zeros", zeros))
			fields[atVec] = plainVector(make(api.Vector, zeros))
			wantRefused(t, wired(fields...), fmt.Sprintf("Vec of %d zeros", zeros))
		}
	}
}

func TestFieldsThatCannotBeRead(t *testing.T) { // P22.1, P0.1
	huge := [][]byte{plainNum(1 << 62), plainNum(1<<62 + 1), plainNum(math.MaxInt64), append(bytes.Repeat([]byte{0xff}, 9), 1), append(bytes.Repeat([]byte{0x80}, 9), 2), append(bytes.Repeat([]byte{0xff}, 30), 1), bytes.Repeat([]byte{0x80}, 40), plainNum(1 << 32), plainNum(1 << 30)}
	for _, kind := range kinds() {
		for i := range plainFields(sample(kind)) {
			for _, n := range huge {
				fields := plainFields(sample(kind))
				fields[i] = append(bytes.Clone(n), fields[i][1:]...)
				wantDecode(t, wired(fields...))
				fields[i] = n
				wantDecode(t, wired(fields...))
			}
			fields := plainFields(sample(kind))
			wantRefused(t, wired(slices.Delete(fields, i, i+1)...), fmt.Sprintf("field %d left out", i))
		}
		fields := plainFields(sample(kind))
		fields[atVec] = plainVector(slices.Repeat(api.Vector{6}, 65))
		wantRefused(t, wired(fields...), "a long vector")
	}
}

func TestTruthsThatAreNone(t *testing.T) { // P22.1
	for x := range 256 {
		for _, kind := range kinds() {
			fields := plainFields(sample(kind))
			fields[atLast] = []byte{byte(x)}
			if got := wantDecode(t, wired(fields...)); got != (x == 0 || x == 1 && kind == api.FOps) {
				t.Errorf("kind %d, truth %d: %v", kind, x, got)
			}
		}
	}
}

func TestFieldsInAnotherOrder(t *testing.T) { // P22.1
	for _, kind := range kinds() {
		for i := range plainFields(sample(kind)) {
			for j := range i {
				fields := plainFields(sample(kind))
				fields[i], fields[j] = fields[j], fields[i]
				wantDecode(t, wired(fields...))
			}
		}
	}
}

func TestCountsThatAreOthers(t *testing.T) { // P22.1
	for n := range 10 {
		f := sample(api.FOps)
		f.Ops = sampleOps(n)
		for count := range 12 {
			fields := plainFields(f)
			fields[atCount] = plainNum(int64(count))
			if got := wantDecode(t, wired(fields...)); got != (count == n && n <= 8) {
				t.Errorf("%d operations, counted as %d: %v", n, count, got)
			}
		}
		for _, count := range []int64{256, 1 << 32, 1 << 62, int64(n) + 1<<32, int64(n) + 1<<61} {
			fields := plainFields(f)
			fields[atCount] = plainNum(count)
			wantRefused(t, wired(fields...), fmt.Sprintf("%d operations, counted as %d", n, count))
		}
	}
}

func TestManySmallOps(t *testing.T) { // P22.1, P0.1
	f := sample(api.FOps)
	f.Ops = slices.Repeat([]api.Op{{Kind: api.KWrite, Stamp: api.ID{Time: 1, Node: 1}, Seq: 1, Obj: api.ID{Time: 1}}}, 80000)
	wantRefused(t, plainFrame(f), "as many operations as have place")
	f.Ops = slices.Repeat(f.Ops[:1], 9)
	wantRefused(t, plainFrame(f), "nine operations")
}

func TestOpsThatAreNone(t *testing.T) { // P22.1
	for place := range 4 {
		for i, o := range wrongOps() {
			if o.Kind >= 0 && !slices.Contains(o.Seen, -1) {
				fields := plainFields(sample(api.FOps))
				fields[atOps+place] = plainBytes(plainOp(o))
				wantRefused(t, wired(fields...), fmt.Sprintf("wrong operation %d at %d", i, place))
			}
		}
		written := plainOp(sample(api.FOps).Ops[place])
		for what, b := range map[string][]byte{
			"no bytes":                     {},
			"a zero":                       {0},
			"a byte behind":                append(bytes.Clone(written), 0),
			"a byte too few":               written[:len(written)-1],
			"a byte ahead":                 append([]byte{0}, written...),
			"the operation twice":          append(bytes.Clone(written), written...),
			"its bytes with their length":  plainBytes(written),
			"a Kind that is longer":        longer(written),
			"a Seen with a zero":           append(bytes.Clone(written[:len(written)-7]), 6, 2, 0, 0xac, 2, 6, 1, 0),
			"a Seen whose end is longer":   append(bytes.Clone(written[:len(written)-1]), 0x80|written[len(written)-1], 0),
			"zeros":                        make([]byte, len(written)),
			"the frame's own other fields": bytes.Join(plainFields(sample(api.FHello)), nil),
		} {
			fields := plainFields(sample(api.FOps))
			fields[atOps+place] = plainBytes(b)
			wantRefused(t, wired(fields...), fmt.Sprintf("%s at %d", what, place))
		}
		fields := plainFields(sample(api.FOps))
		fields[atOps+place] = written
		wantRefused(t, wired(fields...), fmt.Sprintf("no length at %d", place))
	}
}

func TestLengthsOfOpsThatAreOthers(t *testing.T) { // P22.1, P0.1
	for place := range 4 {
		written := plainOp(sample(api.FOps).Ops[place])
		for _, n := range []int64{0, 1, int64(len(written)) - 1, int64(len(written)) + 1, 127, 128, 65536, 65537, 1 << 20, 1 << 32, 1<<32 + int64(len(written)), 1 << 62, math.MaxInt64} {
			fields := plainFields(sample(api.FOps))
			fields[atOps+place] = append(plainNum(n), written...)
			wantRefused(t, wired(fields...), fmt.Sprintf("length %d at %d", n, place))
		}
	}
}

func TestFramesThatMayNotBe(t *testing.T) { // P22.1
	for _, kind := range kinds() {
		for i := range 256 {
			for _, place := range []int{atKind, atFrom, atTo, atSession, atSeq} {
				fields := plainFields(sample(kind))
				fields[place] = plainNum(int64(i))
				wantDecode(t, wired(fields...))
			}
		}
		for n := range 9 {
			f := sample(kind)
			f.Ops = sampleOps(n)
			if got := wantDecode(t, plainFrame(f)); got != (n == 0 || kind == api.FOps && n <= 8) {
				t.Errorf("kind %d, %d operations: %v", kind, n, got)
			}
		}
	}
}

package inode

import (
	"math"
	"testing"

	"lagoon/api"
	"lagoon/bitmap"
)

// ends are sizes at and beside the ends of blocks, of the direct, the single and the double ones.
func ends() []int {
	list := []int{0}
	for _, blocks := range []int{0, 1, 2, 7, 8, 9, 10, 40, 71, 72, 73, 74, 100, 127, 128} {
		for _, size := range []int{blocks*block - 1, blocks * block, blocks*block + 1, blocks*block + 200} {
			if size > 0 && size <= most {
				list = append(list, size)
			}
		}
	}
	return list
}

func TestTruncateToLess(t *testing.T) { // P9.2
	full := text(most, 1)
	for _, size := range ends() {
		d := made(t, 140)
		n := written(t, d, full)
		mustTruncate(t, d, n, size)
		wantFile(t, d, n, full[:size])
		wantTaken(t, d, Cost(size))
		if size == 0 {
			wantImage(t, n, make([]byte, 44))
		}
	}
}

func TestBytesBehindASizeThatGrowsAgain(t *testing.T) { // P9.2
	full := text(most, 1)
	for i, size := range ends() {
		for _, again := range []int{size + 1, size + 30, (size + block - 1) / block * block, size + block, single + 5, double + 5, most} {
			if again <= size || again > most {
				continue
			}
			want := make([]byte, again)
			copy(want, full[:size])

			d := made(t, 140)
			n := written(t, d, full[:min(most, size+1+i*97)])
			mustTruncate(t, d, n, size)
			mustTruncate(t, d, n, again)
			wantFile(t, d, n, want)
			wantTaken(t, d, Cost(size))

			d = made(t, 140)
			n = written(t, d, full)
			mustTruncate(t, d, n, size)
			mustWrite(t, d, n, again-1, []byte{77})
			want[again-1] = 77
			wantFile(t, d, n, want)
		}
	}
}

func TestTruncateStepByStep(t *testing.T) { // P9.2
	full := text(most, 1)
	d := made(t, 140)
	n := written(t, d, full)
	for size := most; size > 0; size -= 333 {
		mustTruncate(t, d, n, size)
		wantTaken(t, d, Cost(size))
		wantFile(t, d, n, full[:size])
	}
	mustTruncate(t, d, n, 0)
	wantTaken(t, d, 0)
}

func TestTruncateToTheSameSize(t *testing.T) { // P9.2
	for _, size := range ends() {
		d := made(t, 140)
		n := New()
		mustWrite(t, d, n, 0, text(size, 1))
		was := n.Bytes()
		mustTruncate(t, d, n, size)
		wantImage(t, n, was)
		wantFile(t, d, n, text(size, 1))
		wantTaken(t, d, Cost(size))
	}
}

func TestTruncateToMore(t *testing.T) { // P9.2
	d := made(t, 140)
	n := written(t, d, text(10, 1))
	for _, size := range []int{11, block, block + 1, single, single + 1, double, double + 1, most - 1, most} {
		mustTruncate(t, d, n, size)
		want := make([]byte, size)
		copy(want, text(10, 1))
		wantFile(t, d, n, want)
		wantTaken(t, d, 1)
	}
	// Nothing is taken for it: so neither numbers nor a cache are needed.
	n = New()
	if e := n.Truncate(nil, nil, most); e != api.OK || n.Size() != most {
		t.Errorf("Truncate without a cache and a map = %d, %d bytes", e, n.Size())
	}
	wantFile(t, d, n, make([]byte, most))
}

func TestTruncateRefuses(t *testing.T) { // P9.2, P0.2
	d := made(t, 8)
	n := written(t, d, text(700, 1))
	was := n.Bytes()
	for _, x := range []struct {
		size int
		want api.Errno
	}{{-1, api.EINVAL}, {-most, api.EINVAL}, {math.MinInt, api.EINVAL}, {most + 1, api.EFBIG}, {1 << 32, api.EFBIG}, {math.MaxInt, api.EFBIG}} {
		if e := n.Truncate(d.c, d.m, x.size); e != x.want {
			t.Errorf("Truncate(%d) = %d, want %d", x.size, e, x.want)
		}
		if e := n.Truncate(nil, nil, x.size); e != x.want {
			t.Errorf("Truncate(%d) of nothing = %d, want %d", x.size, e, x.want)
		}
	}
	wantImage(t, n, was)
	wantFile(t, d, n, text(700, 1))
	wantTaken(t, d, 2)
}

func TestBlocksOfNumbersThatHoldNoneAreGivenBack(t *testing.T) { // P9.2
	for _, x := range []struct {
		writes      []int
		size, taken int
	}{
		{[]int{single + 5*block}, single + 2*block, 0},
		{[]int{single, single + 5*block}, single + 2*block, 2},
		{[]int{double + 5*block}, double + block, 0},
		{[]int{double + 5*block}, double + 5*block, 0},
		{[]int{double + 5*block}, double + 5*block + 1, 3},
		{[]int{double, double + 5*block}, double + block, 3},
		{[]int{0, single, double}, double, 3},
		{[]int{0, single, double}, single + 1, 3},
		{[]int{0, single, double}, single, 1},
		{[]int{0, single, double}, 1, 1},
		{[]int{0, single, double}, 0, 0},
	} {
		d := made(t, 20)
		n := New()
		var want []byte
		for _, at := range x.writes {
			mustWrite(t, d, n, at, []byte{7})
			want = over(want, at, []byte{7})
		}
		mustTruncate(t, d, n, x.size)
		wantFile(t, d, n, want[:x.size])
		wantTaken(t, d, x.taken)
		mustTruncate(t, d, n, most)
		wantFile(t, d, n, append(want[:x.size:x.size], make([]byte, most-x.size)...))
		mustTruncate(t, d, n, 0)
		wantTaken(t, d, 0)
		wantImage(t, n, make([]byte, 44))
	}
}

func TestWhatIsGivenBackIsTakenAgain(t *testing.T) { // P9.2
	d := made(t, 132)
	for i := range 5 {
		n := written(t, d, text(most, i))
		wantFile(t, d, n, text(most, i))
		if d.m.Free() != 0 {
			t.Fatalf("%d are free", d.m.Free())
		}
		mustTruncate(t, d, n, 0)
		mustWrite(t, d, n, single+3, []byte{5})
		wantFile(t, d, n, over(nil, single+3, []byte{5}))
		mustTruncate(t, d, n, 0)
		wantTaken(t, d, 0)
	}
}

func TestTruncateWithAMapThatHasNotTheNumbers(t *testing.T) { // P0.1
	for _, m := range []*bitmap.Map{nil, bitmap.New(0), bitmap.New(3), bitmap.New(50)} {
		d := made(t, 50)
		n := written(t, d, text(single+1, 1))
		if e := n.Truncate(d.c, m, 3); e != api.OK {
			t.Errorf("Truncate = %d", e)
		}
		wantFile(t, d, n, text(single+1, 1)[:3])
		if m.Free() != m.Size() {
			t.Errorf("%d of %d are free", m.Free(), m.Size())
		}
	}
}

func TestTruncateGivesBackAllThatTheNumbersLeadTo(t *testing.T) { // P9.2
	d := made(t, 20)
	for i, list := range map[int][]uint32{2: {3, 0, 4}, 3: {5, 6}, 4: {7, 0, 0, 8}, 9: nil} {
		b := make([]byte, block)
		copy(b, words(list...))
		if e := d.c.Put(i, b); e != api.OK {
			t.Fatalf("Put = %d", e)
		}
	}
	for i := 1; i < 10; i++ {
		d.m.Set(i)
	}
	n := mustLoad(t, image(1, 1, 0, 0, 0, 0, 0, 0, 0, 9, 2))
	mustTruncate(t, d, n, 0)
	wantImage(t, n, make([]byte, 44))
	wantTaken(t, d, 0)
}

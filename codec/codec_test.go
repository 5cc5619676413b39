package codec

import (
	"bytes"
	"math"
	"slices"

	"lagoon/api"
)

// What follows are the chapter's Words, written down plainly, to hold the package against.

func plainNum(n int64) []byte {
	if n < 128 {
		return []byte{byte(n)}
	}
	return append([]byte{byte(n%128 + 128)}, plainNum(n/128)...)
}

func plainBytes(b []byte) []byte {
	return append(plainNum(int64(len(b))), b...)
}

func plainID(id api.ID) []byte {
	return append(plainNum(id.Time), plainNum(int64(id.Node))...)
}

func plainVector(v api.Vector) []byte {
	size := 0
	for i, n := range v {
		if n != 0 {
			size = i + 1
		}
	}
	b := plainNum(int64(size))
	for _, n := range v[:size] {
		b = append(b, plainNum(n)...)
	}
	return b
}

// plainFirst gives the number with which b begins and how many bytes it takes. It is none, if it would be written otherwise.
func plainFirst(b []byte, most int64) (int64, int, bool) {
	end := 0
	for end < len(b) && b[end] > 127 {
		end++
	}
	if end == len(b) || end > 8 {
		return 0, 0, false
	}
	n, factor := int64(0), int64(1)
	for i, x := range b[:end+1] {
		if i > 0 {
			factor *= 128
		}
		n += int64(x&127) * factor
	}
	if n > most || !bytes.Equal(plainNum(n), b[:end+1]) {
		return 0, 0, false
	}
	return n, end + 1, true
}

// plainRun gives the bytes with which b begins, and how many they take with their length.
func plainRun(b []byte) ([]byte, int, bool) {
	n, size, ok := plainFirst(b, 65536)
	if !ok || int(n) > len(b)-size {
		return nil, 0, false
	}
	return b[size : size+int(n)], size + int(n), true
}

func plainFirstID(b []byte) (api.ID, int, bool) {
	time, size, ok := plainFirst(b, 1<<60)
	node, more, also := plainFirst(b[size:], 63)
	if !ok || !also {
		return api.ID{}, 0, false
	}
	return api.ID{Time: time, Node: int(node)}, size + more, true
}

func plainFirstVector(b []byte) (api.Vector, int, bool) {
	count, size, ok := plainFirst(b, 64)
	if !ok {
		return nil, 0, false
	}
	v := api.Vector{}
	for range count {
		n, more, ok := plainFirst(b[size:], 1<<60)
		if !ok {
			return nil, 0, false
		}
		v = append(v, n)
		size += more
	}
	if count > 0 && v[count-1] == 0 {
		return nil, 0, false
	}
	return v, size, true
}

// noise gives n bytes that hang on seed alone.
func noise(seed uint64, n int) []byte {
	b := make([]byte, n)
	for i := range b {
		seed = seed*6364136223846793005 + 1442695040888963407
		b[i] = byte(seed >> 56)
	}
	return b
}

// spoil writes over b, spare room too.
func spoil(b []byte) {
	b = b[:cap(b)]
	for i := range b {
		b[i] ^= 0xff
	}
}

// ones gives a vector of n ones.
func ones(n int) api.Vector {
	return slices.Repeat(api.Vector{1}, n)
}

// goodNums and badNums are the edges of what can be written as a number, and some between.
func goodNums() []int64 {
	nums := []int64{0, 1, 2, 63, 64, 300, 65536, 65537, 1 << 60, 1<<60 + 1, 1<<62 - 1, 1 << 62}
	for bits := 7; bits < 62; bits += 7 {
		nums = append(nums, 1<<bits-1, 1<<bits, 1<<bits+1)
	}
	return nums
}

func badNums() []int64 {
	return []int64{-1, -2, -128, -1 << 62, math.MinInt64, 1<<62 + 1, 1<<62 + 128, math.MaxInt64 - 1, math.MaxInt64}
}

func goodIDs() []api.ID {
	var ids []api.ID
	for _, time := range []int64{0, 1, 127, 128, 1<<60 - 1, 1 << 60} {
		for _, node := range []int{0, 1, 62, 63} {
			ids = append(ids, api.ID{Time: time, Node: node})
		}
	}
	return ids
}

func badIDs() []api.ID {
	var ids []api.ID
	for _, time := range []int64{-1, math.MinInt64, 1<<60 + 1, 1 << 62, math.MaxInt64} {
		for _, node := range []int{0, 63, 64} {
			ids = append(ids, api.ID{Time: time, Node: node})
		}
	}
	for _, node := range []int{-1, math.MinInt, 64, 65, 127, 128, 256, 1 << 32, math.MaxInt} {
		for _, time := range []int64{0, 1, 1 << 60} {
			ids = append(ids, api.ID{Time: time, Node: node})
		}
	}
	return ids
}

func goodVectors() []api.Vector {
	last := append(make(api.Vector, 63), 1)
	return []api.Vector{
		nil, {}, {0}, {0, 0, 0}, make(api.Vector, 64), make(api.Vector, 65), make(api.Vector, 100000),
		{1}, {1, 0}, {0, 1}, {1, 0, 2, 0}, {0, 0, 300, 0, 0, 1, 0, 0, 0}, {128, 127},
		{1 << 60}, {1 << 60, 0, 1 << 60}, slices.Repeat(api.Vector{1 << 60}, 64),
		ones(63), ones(64), last,
		append(ones(64), 0), append(ones(64), make(api.Vector, 5000)...), append(last, 0, 0),
		append(ones(3), make(api.Vector, 62)...), append(ones(3), make(api.Vector, 5000)...),
	}
}

func badVectors() []api.Vector {
	return []api.Vector{
		ones(65), ones(66), ones(128), ones(5000), append(make(api.Vector, 64), 1), append(make(api.Vector, 100000), 1),
		append(ones(65), 0, 0, 0), append(ones(64), 0, 0, 1, 0),
		{-1}, {1, -1}, {-1, 1}, {0, -1, 0}, {math.MinInt64}, append(ones(63), -1), append(ones(64), -1), append(ones(64), 0, -1),
		{1<<60 + 1}, {1, 1<<60 + 1, 0}, {1<<60 + 1, 1}, {1 << 62}, {1<<62 + 1}, {math.MaxInt64}, append(ones(63), 1<<60+1),
	}
}

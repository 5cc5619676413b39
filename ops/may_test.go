package ops

import (
	"fmt"
	"math"
	"slices"
	"strings"
	"testing"

	"lagoon/api"
)

func TestRootAndTrash(t *testing.T) { // Words
	if Root() != (api.ID{Time: 0, Node: 0}) || Trash() != (api.ID{Time: 0, Node: 1}) {
		t.Errorf("Root %v, Trash %v", Root(), Trash())
	}
}

// nameEdges has names and what is none, with what Name says of each.
func nameEdges() map[string]api.Errno {
	edges := map[string]api.Errno{
		"": api.EINVAL, ".": api.EINVAL, "..": api.EINVAL,
		"...": api.OK, "....": api.OK, ".a": api.OK, "a.": api.OK, "..a": api.OK, "a..": api.OK, ". ": api.OK, " ..": api.OK,
		"a": api.OK, " ": api.OK, "~": api.OK, "\x02": api.OK, "\x7f": api.OK, "\x80": api.OK, "\xff": api.OK, "\xc0\xaf": api.OK, "\xfe\xff": api.OK, "é": api.OK, "\u2215": api.OK, "\\": api.OK, ":": api.OK,
		"\x00": api.EINVAL, "\x01": api.EINVAL, "/": api.EINVAL, "./": api.EINVAL, "../": api.EINVAL, "/..": api.EINVAL,
		strings.Repeat(".", 64): api.OK, strings.Repeat(".", 65): api.ENAMETOOLONG,
		strings.Repeat("é", 32): api.OK, strings.Repeat("é", 32) + "a": api.ENAMETOOLONG, strings.Repeat("é", 33): api.ENAMETOOLONG,
		strings.Repeat("\xff", 64): api.OK, strings.Repeat("\xff", 65): api.ENAMETOOLONG,
	}
	for _, size := range []int{1, 2, 3, 63, 64, 65, 66, 128, 255, 256, 320, 5000, 65536, 65537, 1 << 20} {
		fine := strings.Repeat("a", size)
		edges[fine] = api.OK
		if size > 64 {
			edges[fine] = api.ENAMETOOLONG
		}
		for _, at := range []int{0, size / 2, size - 1} {
			for _, wrong := range []string{"\x00", "\x01", "/"} {
				edges[fine[:at]+wrong+fine[at+1:]] = api.EINVAL
			}
		}
	}
	return edges
}

func TestName(t *testing.T) { // P12.1
	for s, want := range nameEdges() {
		if got := Name(s); got != want || plainName(s) != want {
			t.Errorf("Name of %.70q, %d bytes: %d, want %d", s, len(s), got, want)
		}
	}
}

func TestNameOfEachByte(t *testing.T) { // P12.1
	for x := range 256 {
		for _, s := range []string{string([]byte{byte(x)}), string([]byte{'a', byte(x)}), string([]byte{byte(x), 'a'}), string([]byte{'a', byte(x), 'b'})} {
			want := api.OK
			if x == 0 || x == 1 || x == '/' || s == "." {
				want = api.EINVAL
			}
			if got := Name(s); got != want {
				t.Errorf("Name of %q: %d, want %d", s, got, want)
			}
		}
	}
}

func TestNamesInOperations(t *testing.T) { // P12.1
	for s, e := range nameEdges() {
		for _, kind := range kinds() {
			o := sample(kind)
			o.Name = s
			may := e == api.OK
			if kind == api.KWrite {
				may = s == ""
			}
			wantMay(t, o, may, fmt.Sprintf("Name of %d bytes, %.70q", len(s), s))
		}
	}
}

func TestSamplesMayBe(t *testing.T) { // P12.1
	for _, kind := range kinds() {
		wantMay(t, sample(kind), true, "as it is")
	}
	wantMay(t, api.Op{}, false, "zero")
}

func TestNoOtherKind(t *testing.T) { // P12.1
	for _, like := range kinds() {
		for _, kind := range []int{0, -1, 5, 6, 127, 128, 255, 256, 257, 1<<32 + 1, 1<<32 + 4, 1 << 62, 1<<62 + 1, -1 << 32, math.MinInt, math.MinInt + 1, math.MaxInt} {
			o := sample(like)
			o.Kind = kind
			wantMay(t, o, false, fmt.Sprintf("like kind %d", like))
		}
	}
	for _, like := range kinds() {
		for _, kind := range kinds() {
			o := sample(like)
			o.Kind = kind
			made := like <= api.KFile && kind <= api.KFile
			wantMay(t, o, like == kind || made, fmt.Sprintf("like kind %d", like))
		}
	}
}

func TestStamps(t *testing.T) { // P12.1
	for _, kind := range kinds() {
		for _, time := range []int64{math.MinInt64, -1, 0, 1, 2, 127, 128, great - 1, great, great + 1, 1 << 62, math.MaxInt64} {
			for _, node := range []int{math.MinInt, -64, -1, 0, 1, 2, 62, 63, 64, 65, 128, 1 << 32, math.MaxInt} {
				o := first(kind, api.ID{Time: time, Node: node})
				may := time >= 1 && time <= great && node >= 0 && node <= 63
				if kind >= api.KMove && time == 1 && node == 0 {
					may = false // no object stands ahead of this stamp
				}
				wantMay(t, o, may, fmt.Sprintf("Stamp %v", o.Stamp))
			}
		}
	}
}

func TestSeqs(t *testing.T) { // P12.1
	for _, kind := range kinds() {
		for _, seq := range []int64{1, 2, 127, 128, 129, 1 << 32, great - 1, great} {
			for _, own := range []int64{0, 1, seq - 2, seq - 1, seq, seq + 1, great - 1, great, great + 1, -1} {
				o := sample(kind)
				o.Seq = seq
				o.Seen[3] = own
				wantMay(t, o, own == seq-1, fmt.Sprintf("Seq %d, seen %d", seq, own))
			}
		}
		for _, seq := range []int64{0, -1, -7, math.MinInt64, math.MinInt64 + 1, great + 1, great + 2, 1 << 62, 1<<62 + 1, math.MaxInt64} {
			for _, own := range []int64{0, 1, -1, -2, great, great + 1, seq, seq - 1, math.MaxInt64, math.MinInt64} {
				o := sample(kind)
				o.Seq = seq
				o.Seen[3] = own
				wantMay(t, o, false, fmt.Sprintf("Seq %d, seen %d", seq, own))
			}
		}
	}
}

// at gives a vector that has n for the node and zeros ahead of it.
func at(node int, n int64) api.Vector {
	return append(make(api.Vector, node), n)
}

func TestSeen(t *testing.T) { // P12.1
	ones := slices.Repeat(api.Vector{1}, 64)
	full := slices.Repeat(api.Vector{great}, 64)
	full[3] = 1
	for _, kind := range kinds() {
		for i, c := range []struct {
			seen api.Vector
			seq  int64
			may  bool
		}{
			{nil, 1, true}, {api.Vector{}, 1, true}, {make(api.Vector, 3), 1, true}, {make(api.Vector, 64), 1, true}, {make(api.Vector, 65), 1, true}, {make(api.Vector, 100000), 1, true},
			{nil, 2, false}, {make(api.Vector, 64), 2, false},
			{at(0, 9), 1, true}, {at(2, 9), 1, true}, {at(4, 9), 1, true}, {at(63, 9), 1, true}, {at(2, 1), 2, false}, {at(4, 1), 2, false},
			{at(3, 1), 2, true}, {append(at(3, 1), 0), 2, true}, {append(at(3, 1), make(api.Vector, 60)...), 2, true}, {append(at(3, 1), make(api.Vector, 61)...), 2, true}, {append(at(3, 1), make(api.Vector, 5000)...), 2, true},
			{ones, 2, true}, {full, 2, true}, {append(slices.Clone(ones), 0, 0), 2, true},
			{append(slices.Clone(ones), 1), 2, false}, {append(slices.Clone(ones), 0, 1), 2, false}, {append(slices.Clone(ones), -1), 2, false}, {append(slices.Clone(ones), great+1), 2, false}, {append(slices.Clone(ones), 0, 0, -1, 0), 2, false},
			{at(64, 1), 1, false}, {at(64, -1), 1, false}, {append(at(64, 1), 0, 0), 1, false}, {at(5000, 1), 1, false}, {at(5000, math.MinInt64), 1, false},
			{at(0, great), 1, true}, {at(0, great+1), 1, false}, {at(0, -1), 1, false}, {at(0, math.MinInt64), 1, false}, {at(0, math.MaxInt64), 1, false}, {api.Vector{-1, 1}, 1, false}, {api.Vector{1, -1, 0}, 1, false}, {api.Vector{great + 1, 1}, 1, false},
			// Those that count as 0 of its own node, but are none of a vector.
			{at(3, -1), 1, false}, {at(3, great+1), 1, false}, {append(at(3, -1), 0), 1, false}, {append(at(3, math.MaxInt64), 1), 1, false},
			{at(63, great), 1, true}, {at(63, great+1), 1, false}, {at(63, -1), 1, false}, {append(at(63, -1), 0), 1, false},
		} {
			o := sample(kind)
			o.Seen, o.Seq = c.seen, c.seq
			wantMay(t, o, c.may, fmt.Sprintf("Seen %d", i))
		}
	}
}

func TestSeenOfTheLastNode(t *testing.T) { // P12.1
	for _, kind := range kinds() {
		for _, node := range []int{0, 1, 62, 63} {
			o := first(kind, api.ID{Time: 9, Node: node})
			o.Seq, o.Seen = 41, at(node, 40)
			wantMay(t, o, true, "Seen by the node itself")
			o.Seen = append(o.Seen, 0)
			wantMay(t, o, true, "Seen with a zero at its end")
			o.Seen[node] = 41
			wantMay(t, o, false, "Seen with one more")
			o.Seen[node] = 39
			wantMay(t, o, false, "Seen with one less")
			o.Seen = at((node+1)%64, 40)
			wantMay(t, o, false, "Seen by another node")
		}
	}
}

// wheres has IDs at the edges, and where they stand to the sample's stamp, (500, 3).
func wheres() map[api.ID]string {
	return map[api.ID]string{
		{}:                         "root",
		{Node: 1}:                  "trash",
		{Node: 2}:                  "none",
		{Node: 63}:                 "none",
		{Node: 64}:                 "none",
		{Node: -1}:                 "none",
		{Time: -1}:                 "none",
		{Time: -1, Node: 1}:        "none",
		{Time: math.MinInt64}:      "none",
		{Time: 1, Node: -1}:        "none",
		{Time: 1, Node: 64}:        "none",
		{Time: 499, Node: 64}:      "none",
		{Time: 499, Node: -1}:      "none",
		{Time: 500, Node: -1}:      "none",
		{Time: 500, Node: -3}:      "none",
		{Time: 1}:                  "less",
		{Time: 1, Node: 1}:         "less",
		{Time: 1, Node: 63}:        "less",
		{Time: 3, Node: 3}:         "less",
		{Time: 499}:                "less",
		{Time: 499, Node: 3}:       "less",
		{Time: 499, Node: 4}:       "less",
		{Time: 499, Node: 63}:      "less",
		{Time: 500}:                "less",
		{Time: 500, Node: 2}:       "less",
		{Time: 500, Node: 3}:       "equal",
		{Time: 500, Node: 4}:       "greater",
		{Time: 500, Node: 63}:      "greater",
		{Time: 500, Node: 64}:      "none",
		{Time: 501}:                "greater",
		{Time: 501, Node: 2}:       "greater",
		{Time: 501, Node: 3}:       "greater",
		{Time: great}:              "greater",
		{Time: great, Node: 63}:    "greater",
		{Time: great + 1}:          "none",
		{Time: math.MaxInt64}:      "none",
		{Time: 400, Node: 1 << 32}: "none",
	}
}

func TestObjs(t *testing.T) { // P12.1
	for id, where := range wheres() {
		for _, kind := range kinds() {
			o := sample(kind)
			o.Obj = id
			want := "less"
			if kind == api.KDir || kind == api.KFile {
				want = "equal"
			}
			wantMay(t, o, where == want, fmt.Sprintf("Obj %v", id))
		}
	}
}

func TestParents(t *testing.T) { // P12.1
	for id, where := range wheres() {
		for _, kind := range kinds() {
			o := sample(kind)
			o.Parent = id
			may := where == "root"
			if kind != api.KWrite {
				may = may || where == "less"
			}
			if kind == api.KMove {
				may = may || where == "trash"
			}
			wantMay(t, o, may, fmt.Sprintf("Parent %v", id))
		}
	}
}

func TestMoveIntoItself(t *testing.T) { // P12.1
	o := sample(api.KMove)
	o.Parent = o.Obj
	wantMay(t, o, true, "Parent is Obj") // The tree will pass it over; the Words don't rule it out.
}

func TestDatas(t *testing.T) { // P12.1
	for _, size := range []int{0, 1, 2, 127, 128, 65535, 65536, 65537, 65538, 1 << 17, 1 << 20} {
		for _, kind := range kinds() {
			o := sample(kind)
			o.Data = noise(uint64(size), size)
			wantMay(t, o, size == 0 || kind == api.KWrite && size <= 65536, fmt.Sprintf("Data of %d bytes", size))
			if size == 0 {
				o.Data = nil
				wantMay(t, o, true, "Data nil")
			}
		}
	}
	o := sample(api.KWrite)
	for x := range 256 {
		o.Data = []byte{byte(x)}
		wantMay(t, o, true, "Data of any byte")
	}
}

// everyOp calls f with operations whose fields stand at edges, all of them against each other.
func everyOp(kind int, f func(o api.Op)) {
	stamps := []api.ID{{Time: 0, Node: 3}, {Time: 1}, {Time: 500, Node: 3}, {Time: great, Node: 63}, {Time: 500, Node: 64}}
	others := []api.ID{{}, {Node: 1}, {Time: 1}, {Time: 500, Node: 2}, {Time: 500, Node: 3}, {Time: great, Node: 63}}
	seens := []api.Vector{nil, at(0, 1), at(3, 1), at(3, great), at(63, 1), at(64, 1), at(3, -1), {1, 0, 0, 1, 0}}
	for _, stamp := range stamps {
		for _, seq := range []int64{0, 1, 2, great, great + 1} {
			for _, obj := range others {
				for _, parent := range others {
					for _, name := range []string{"", "a", "..", "a/b"} {
						for _, data := range []string{"", "x"} {
							for _, seen := range seens {
								f(api.Op{Stamp: stamp, Seq: seq, Kind: kind, Obj: obj, Parent: parent, Name: name, Data: []byte(data), Seen: seen})
							}
						}
					}
				}
			}
		}
	}
}

func TestEdgesAgainstEachOther(t *testing.T) { // P12.1, P12.2
	for kind := range 6 {
		count := 0
		everyOp(kind, func(o api.Op) {
			may := plainMay(o)
			if may {
				count++
			}
			if May(o) != may || (Cost(o) > 0) != may {
				t.Fatalf("May %v, Cost %d of %+v", May(o), Cost(o), o)
			}
		})
		if (count > 0) != (kind >= 1 && kind <= 4) {
			t.Errorf("kind %d: %d may be", kind, count)
		}
	}
}

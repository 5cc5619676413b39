package fds

import (
	"fmt"
	"math"
	"testing"

	"lagoon/api"
)

func TestTablesKnowNothingOfEachOther(t *testing.T) { // P0.5
	first, second := newPair(t, "first"), newPair(t, "second")
	first.wantOpens(0, 1, 2)
	second.look()
	second.wantOpens(0)
	first.seek(0, 9)
	first.close(1)
	second.look()
	second.wantOpens(1)
	second.close(0)
	first.look()
	second.clear()
	first.look()
	first.wantOpens(1, 3)
	first.clear()
	second.wantOpens(0, 1)
	first.fill()
	second.look()
	if !second.table.Room() || first.table.Room() {
		t.Error("the room of one is that of the other")
	}
}

func TestManyTablesByTurns(t *testing.T) { // P0.5
	n := noise(7)
	var all []*pair
	for i := range 20 {
		all = append(all, newPair(t, fmt.Sprint("table ", i)))
	}
	for range 20000 {
		pick(&n, all).step(&n, mood{45, 40, 10, 1, 1})
	}
	for _, p := range all {
		p.look()
	}
}

// The same calls of another table give the same answers.
func TestSameCallsSameAnswers(t *testing.T) { // P0.5
	told := func() string {
		n, x, all := noise(3), New(), ""
		for range 2000 {
			fd, e := x.Open(pick(&n, objects()), pick(&n, someFlags()))
			a, b, c, d := x.Get(n.below(33))
			all += fmt.Sprintln(fd, e, a, b, c, d, x.Seek(n.below(33), pick(&n, offsets()).at), x.Close(n.below(33)), x.Len(), x.Room())
		}
		return all
	}
	if told() != told() {
		t.Error("the same calls, other answers")
	}
}

// Beside an error all is zero, also where a file is open at 0 or stood at the number.
func TestZerosBesideErrors(t *testing.T) { // P0.2
	x := New()
	for range 32 {
		fd, _ := x.Open(api.ID{Time: 8, Node: 8}, 8)
		x.Seek(fd, 8)
	}
	if fd, e := x.Open(api.ID{Time: 9, Node: 9}, 9); fd != 0 || e != api.ENFILE {
		t.Errorf("Open = %d, %d", fd, e)
	}
	x.Close(0)
	x.Close(30)
	for _, fd := range append(strange(), 0, 30) {
		if obj, flags, at, e := x.Get(fd); obj != (api.ID{}) || flags != 0 || at != 0 || e != api.EBADF {
			t.Errorf("Get(%d) = %v, %d, %d, %d", fd, obj, flags, at, e)
		}
	}
	x.Clear()
	for fd := range 32 {
		if obj, flags, at, e := x.Get(fd); obj != (api.ID{}) || flags != 0 || at != 0 || e != api.EBADF {
			t.Errorf("cleared: Get(%d) = %v, %d, %d, %d", fd, obj, flags, at, e)
		}
	}
}

func TestNilTable(t *testing.T) { // P20.1, P0.1
	var none *Table
	for range 2 {
		for _, fd := range append(strange(), upTo(0, 32)...) {
			if obj, flags, at, e := none.Get(fd); obj != (api.ID{}) || flags != 0 || at != 0 || e != api.EBADF {
				t.Errorf("Get(%d) = %v, %d, %d, %d", fd, obj, flags, at, e)
			}
			for _, at := range []int{0, 7, -1, 1<<30 + 1, math.MinInt, math.MaxInt} {
				if e := none.Seek(fd, at); e != api.EBADF {
					t.Errorf("Seek(%d, %d) = %d", fd, at, e)
				}
			}
			if e := none.Close(fd); e != api.EBADF {
				t.Errorf("Close(%d) = %d", fd, e)
			}
		}
		for _, obj := range objects() {
			for _, flags := range someFlags() {
				if fd, e := none.Open(obj, flags); fd != 0 || e != api.ENFILE {
					t.Errorf("Open(%v, %d) = %d, %d", obj, flags, fd, e)
				}
			}
		}
		if none.Len() != 0 || none.Room() {
			t.Errorf("Len, Room = %d, %v", none.Len(), none.Room())
		}
		none.Clear()
	}
}

// A zero Table is as New gives it, and a copy of one goes its own way.
func TestZeroTableAndCopies(t *testing.T) { // P0.1, P0.5
	p := &pair{t, "zero", &Table{}, plainTable{}}
	p.look()
	p.fill()
	p.close(9, 3, 20)
	other := *p.table
	copied := &pair{t, "copied", &other, plainTable{}}
	for fd, f := range p.plain {
		copied.plain[fd] = f
	}
	p.wantOpens(3)
	p.close(1)
	copied.look()
	copied.close(5, 0)
	copied.wantOpens(0, 3, 5, 9, 20)
	p.look()
	p.wantOpens(1, 9, 20)
	var zero Table
	zero.Clear()
	if zero.Len() != 0 || !zero.Room() || zero.Close(0) != api.EBADF {
		t.Error("a zero table that was cleared")
	}
}

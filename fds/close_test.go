package fds

import (
	"fmt"
	"testing"

	"lagoon/api"
)

func TestCloseOfEachNumber(t *testing.T) { // P20.1
	for fd := range 32 {
		p := fullPair(t, fmt.Sprint("close ", fd))
		if e := p.table.Close(fd); e != api.OK {
			t.Errorf("Close(%d) = %d", fd, e)
		}
		p.plain.close(fd)
		p.look()
		if p.table.Len() != 31 || !p.table.Room() {
			t.Errorf("Len, Room = %d, %v", p.table.Len(), p.table.Room())
		}
		for range 3 {
			if e := p.table.Close(fd); e != api.EBADF {
				t.Errorf("Close(%d) again = %d", fd, e)
			}
		}
		p.seek(fd, 0)
		p.look()
		// Closed twice, it is given once.
		p.wantOpens(fd)
		if _, e := p.table.Open(api.ID{}, 0); e != api.ENFILE {
			t.Errorf("the 33rd Open = %d", e)
		}
	}
}

func TestCloseOfWhatIsNotOpen(t *testing.T) { // P20.1
	for count := range 33 {
		p := newPair(t, fmt.Sprint(count, " open"))
		p.wantOpens(upTo(0, count)...)
		for _, fd := range append(strange(), upTo(count, 32)...) {
			if e := p.table.Close(fd); e != api.EBADF {
				t.Errorf("of %d open: Close(%d) = %d", count, fd, e)
			}
		}
		p.look()
		if count < 32 {
			p.wantOpens(count)
		}
	}
}

// A number that was closed and given again may be closed again.
func TestCloseAgainBehindOpen(t *testing.T) { // P20.1
	p := newPair(t, "again")
	p.wantOpens(0, 1, 2)
	for range 50 {
		p.close(1, 1, 0, 1, 0)
		p.wantOpens(0, 1)
	}
	p.wantOpens(3)
}

func TestClear(t *testing.T) { // P20.1
	for count := range 33 {
		p := newPair(t, fmt.Sprint("clear of ", count))
		for range count {
			p.seek(p.mark(), 5)
		}
		for range 2 {
			p.clear()
			p.look()
			p.close(append(strange(), upTo(0, 32)...)...)
			for _, fd := range append(strange(), upTo(0, 32)...) {
				p.seek(fd, 3)
			}
		}
		p.fillPlainly()
		p.mark()
		p.clear()
		p.wantOpens(0, 1)
	}
}

// What was closed ahead of a Clear is not given twice behind it.
func TestClearForgetsWhatWasClosed(t *testing.T) { // P20.1
	for _, set := range [][]int{{0}, {31}, {5, 3}, {9, 3, 20}, {31, 0, 30, 1}, upTo(0, 31), upTo(0, 32)} {
		p := fullPair(t, fmt.Sprint("clear behind closes of ", set))
		p.close(set...)
		p.clear()
		p.look()
		p.fillPlainly()
		p.mark()
		p.close(2, 1)
		p.wantOpens(1, 2)
	}
}

func TestLenAndRoomAtTheBound(t *testing.T) { // P20.1
	x := New()
	want := func(what string, count int, room bool) {
		t.Helper()
		if x.Len() != count || x.Room() != room {
			t.Errorf("%s: Len, Room = %d, %v; want %d, %v", what, x.Len(), x.Room(), count, room)
		}
	}
	want("new", 0, true)
	for range 31 {
		x.Open(api.ID{}, 0)
	}
	want("31 open", 31, true)
	x.Open(api.ID{}, 0)
	want("32 open", 32, false)
	x.Open(api.ID{}, 0)
	want("a refused Open", 32, false)
	x.Close(32)
	want("a refused Close", 32, false)
	x.Seek(1, 9)
	x.Seek(1, -1)
	want("Seek", 32, false)
	x.Get(1)
	want("Get", 32, false)
	x.Close(12)
	want("Close", 31, true)
	x.Close(12)
	want("a second Close", 31, true)
	x.Open(api.ID{}, 0)
	want("Open", 32, false)
	x.Clear()
	want("Clear", 0, true)
	x.Clear()
	want("a second Clear", 0, true)
}

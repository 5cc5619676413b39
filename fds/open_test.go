package fds

import (
	"fmt"
	"slices"
	"testing"

	"lagoon/api"
)

func TestNewHasNoneOpen(t *testing.T) { // P20.1
	p := newPair(t, "new")
	p.close(append(strange(), upTo(0, 32)...)...)
	for _, fd := range append(strange(), upTo(0, 32)...) {
		p.seek(fd, 1)
	}
	p.wantOpens(0)
}

func TestOpenGivesTheNumbersInTurn(t *testing.T) { // P20.1
	x := New()
	for i := range 32 {
		if x.Len() != i || !x.Room() {
			t.Errorf("ahead of Open %d: Len, Room = %d, %v", i, x.Len(), x.Room())
		}
		if fd, e := x.Open(api.ID{Time: int64(i), Node: i}, i); fd != i || e != api.OK {
			t.Errorf("Open %d = %d, %d", i, fd, e)
		}
	}
	if x.Len() != 32 || x.Room() {
		t.Errorf("full: Len, Room = %d, %v", x.Len(), x.Room())
	}
	for range 3 {
		if fd, e := x.Open(api.ID{Time: 99}, 7); fd != 0 || e != api.ENFILE {
			t.Errorf("the 33rd Open = %d, %d", fd, e)
		}
	}
}

// Open that finds no room leaves all as it was, the turn of the numbers, too.
func TestRefusedOpenLeavesAll(t *testing.T) { // P20.1, P0.2
	p := fullPair(t, "full")
	for _, obj := range objects() {
		for _, flags := range someFlags() {
			p.open(obj, flags)
			p.look()
		}
	}
	p.close(17)
	p.wantOpens(17)
	p.mark()
	p.close(30, 4)
	p.wantOpens(4, 30)
}

func TestOpenBehindOneClose(t *testing.T) { // P20.1
	for count := 1; count <= 32; count++ {
		for fd := range count {
			p := newPair(t, fmt.Sprint(fd, " of ", count, " closed"))
			for range count {
				p.mark()
			}
			p.close(fd)
			p.wantOpens(fd)
			if count < 32 {
				p.wantOpens(count)
			}
		}
	}
}

// Behind the numbers that were closed, whatever the order, stand those that were never open.
func TestOpenBehindSeveralCloses(t *testing.T) { // P20.1
	for _, set := range [][]int{{0, 1}, {3, 8, 9}, {0, 4, 9}, {0, 2, 4, 6}, {2, 3, 5, 8, 9}, {0, 1, 2, 7, 8, 9}} {
		for _, order := range orders(set) {
			p := newPair(t, fmt.Sprint(order))
			p.wantOpens(upTo(0, 10)...)
			p.close(order...)
			p.look()
			p.wantOpens(append(slices.Clone(set), 10, 11)...)
		}
	}
	p := fullPair(t, "of a full one")
	p.close(9, 3, 20)
	p.wantOpens(3, 9, 20)
	p.mark()
	p.look()
}

// Closes between the Opens: what is closed later may be less than what is left of the earlier ones.
func TestOpenAndCloseByTurns(t *testing.T) { // P20.1
	p := newPair(t, "by turns")
	p.wantOpens(upTo(0, 8)...)
	p.close(6, 2)
	p.wantOpens(2)
	p.close(1, 4)
	p.wantOpens(1)
	p.close(0)
	p.wantOpens(0, 4, 6, 8)
	p.close(8, 7)
	p.wantOpens(7)
	p.close(3)
	p.wantOpens(3, 8, 9)
	for range 100 { // the same number over and over
		p.close(5)
		p.wantOpens(5)
	}
	p.wantOpens(10)
}

func TestOpenBehindCloseOfAll(t *testing.T) { // P20.1
	n := noise(20)
	rising := upTo(0, 32)
	falling := slices.Clone(rising)
	slices.Reverse(falling)
	list := [][]int{rising, falling}
	for range 200 {
		list = append(list, n.shuffled(32))
	}
	p := fullPair(t, "all closed")
	for _, order := range list {
		p.close(order...)
		p.look()
		p.wantOpens(rising...)
		p.mark()
	}
	for count := range 32 {
		p := newPair(t, fmt.Sprint("all of ", count, " closed"))
		p.wantOpens(upTo(0, count)...)
		p.close(n.shuffled(count)...)
		p.look()
		p.wantOpens(upTo(0, count+1)...)
	}
}

func TestOpenTakesAnyObjectAndFlags(t *testing.T) { // P20.1
	for _, obj := range objects() {
		p := newPair(t, fmt.Sprint(obj))
		for i, flags := range someFlags() {
			if fd := p.open(obj, flags); fd != i {
				t.Fatalf("%v, %d: Open = %d, want %d", obj, flags, fd, i)
			}
			if id, f, at, e := p.table.Get(i); id != obj || f != flags || at != 0 || e != api.OK {
				t.Errorf("%v, %d: Get = %v, %d, %d, %d", obj, flags, id, f, at, e)
			}
		}
		p.look()
	}
}

// The same object may be open many times, each with an offset of its own.
func TestOneObjectOftenOpen(t *testing.T) { // P20.1
	p := newPair(t, "often")
	for range 33 {
		p.open(api.ID{Time: 5, Node: 1}, api.OWrite)
	}
	for fd := range 32 {
		p.seek(fd, 100+fd)
	}
	p.look()
	p.close(7)
	p.look()
}

// What is opened in another file's place knows nothing of that one.
func TestOpenStartsAnew(t *testing.T) { // P20.1
	for fd := range 32 {
		p := fullPair(t, fmt.Sprint("in the place of ", fd))
		p.seek(fd, 1<<30)
		p.close(fd)
		p.open(api.ID{}, 0)
		if id, flags, at, e := p.table.Get(fd); id != (api.ID{}) || flags != 0 || at != 0 || e != api.OK {
			t.Errorf("Get(%d) = %v, %d, %d, %d", fd, id, flags, at, e)
		}
		p.look()
		p.seek(fd, 77)
		p.clear()
		p.fillPlainly()
	}
}

// fillPlainly opens all numbers and lets their offsets be.
func (p *pair) fillPlainly() {
	p.t.Helper()
	p.wantOpens(upTo(0, 32)...)
	for fd := range 32 {
		if _, _, at, e := p.table.Get(fd); at != 0 || e != api.OK {
			p.t.Errorf("%s: Get(%d) = .., %d, %d", p.what, fd, at, e)
		}
	}
}

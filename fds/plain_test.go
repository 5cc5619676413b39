package fds

import (
	"math"
	"slices"
	"testing"

	"lagoon/api"
)

// What follows are the chapter's words, written down plainly, to hold the package against.

// entry is what Get answers of a number that is open.
type entry struct {
	obj       api.ID
	flags, at int
}

// plainTable has the numbers that are open.
type plainTable map[int]entry

func (p plainTable) open(obj api.ID, flags int) (int, api.Errno) {
	if len(p) == 32 {
		return 0, api.ENFILE
	}
	for fd := 0; ; fd++ {
		if _, ok := p[fd]; !ok {
			p[fd] = entry{obj: obj, flags: flags}
			return fd, api.OK
		}
	}
}

func (p plainTable) get(fd int) (entry, api.Errno) {
	if f, ok := p[fd]; ok {
		return f, api.OK
	}
	return entry{}, api.EBADF
}

func (p plainTable) seek(fd, at int) api.Errno {
	f, ok := p[fd]
	if !ok {
		return api.EBADF
	}
	if at < 0 {
		return api.EINVAL
	}
	if at > 1<<30 {
		return api.EOVERFLOW
	}
	f.at = at
	p[fd] = f
	return api.OK
}

func (p plainTable) close(fd int) api.Errno {
	if _, ok := p[fd]; !ok {
		return api.EBADF
	}
	delete(p, fd)
	return api.OK
}

// strange are numbers that are never open.
func strange() []int {
	return []int{math.MinInt, math.MinInt + 1, -1 << 32, -1 << 31, -33, -32, -31, -2, -1, 32, 33, 63, 64, 65, 1 << 8, 1 << 16, 1 << 31, 1 << 32, 1<<32 + 1, math.MaxInt - 1, math.MaxInt}
}

// objects are IDs of all kinds: those that may be and those that may not.
func objects() []api.ID {
	return []api.ID{
		{}, {Time: 1}, {Node: 1}, {Time: 7, Node: 63}, {Time: 1 << 60, Node: 64},
		{Time: -1, Node: -1}, {Time: math.MaxInt64, Node: math.MaxInt}, {Time: math.MinInt64, Node: math.MinInt},
	}
}

func someFlags() []int {
	return []int{0, 1, api.OWrite, api.OWrite | api.OAppend, 31, 32, -1, -31, 1 << 40, math.MaxInt, math.MinInt}
}

// pair is a table and the plain one, which are told the same.
type pair struct {
	t     *testing.T
	what  string
	table *Table
	plain plainTable
}

func newPair(t *testing.T, what string) *pair {
	t.Helper()
	table := New()
	if table == nil {
		t.Fatalf("%s: New is nil", what)
	}
	p := &pair{t, what, table, plainTable{}}
	p.look()
	return p
}

// fullPair has all numbers open, each with an object, flags and an offset of its own.
func fullPair(t *testing.T, what string) *pair {
	t.Helper()
	p := newPair(t, what)
	p.fill()
	return p
}

// fill opens what may be opened, and one more.
func (p *pair) fill() {
	p.t.Helper()
	for len(p.plain) < 32 {
		p.seek(p.mark(), 9*len(p.plain))
	}
	p.mark()
	p.look()
}

// mark opens a file with an object and flags of its own.
func (p *pair) mark() int {
	p.t.Helper()
	n := len(p.plain)
	return p.open(api.ID{Time: int64(1000 + n), Node: n}, 70+n)
}

func (p *pair) open(obj api.ID, flags int) int {
	p.t.Helper()
	fd, e := p.table.Open(obj, flags)
	want, wantE := p.plain.open(obj, flags)
	if fd != want || e != wantE {
		p.t.Fatalf("%s: Open = %d, %d; want %d, %d", p.what, fd, e, want, wantE)
	}
	p.count()
	return fd
}

func (p *pair) get(fd int) {
	p.t.Helper()
	obj, flags, at, e := p.table.Get(fd)
	want, wantE := p.plain.get(fd)
	if (entry{obj, flags, at}) != want || e != wantE {
		p.t.Fatalf("%s: Get(%d) = %v, %d, %d, %d; want %v, %d", p.what, fd, obj, flags, at, e, want, wantE)
	}
}

func (p *pair) seek(fd, at int) {
	p.t.Helper()
	if e, want := p.table.Seek(fd, at), p.plain.seek(fd, at); e != want {
		p.t.Fatalf("%s: Seek(%d, %d) = %d, want %d", p.what, fd, at, e, want)
	}
	p.get(fd)
	p.count()
}

func (p *pair) close(fds ...int) {
	p.t.Helper()
	for _, fd := range fds {
		if e, want := p.table.Close(fd), p.plain.close(fd); e != want {
			p.t.Fatalf("%s: Close(%d) = %d, want %d", p.what, fd, e, want)
		}
		p.get(fd)
		p.count()
	}
}

func (p *pair) clear() {
	p.t.Helper()
	p.table.Clear()
	clear(p.plain)
	p.count()
}

func (p *pair) count() {
	p.t.Helper()
	if n, room := p.table.Len(), p.table.Room(); n != len(p.plain) || room != (len(p.plain) < 32) {
		p.t.Fatalf("%s: Len, Room = %d, %v; want %d", p.what, n, room, len(p.plain))
	}
}

// look holds all that the table tells.
func (p *pair) look() {
	p.t.Helper()
	p.count()
	for fd := range 32 {
		p.get(fd)
	}
	for _, fd := range strange() {
		p.get(fd)
	}
}

// wantOpens holds that the next Opens give these numbers.
func (p *pair) wantOpens(fds ...int) {
	p.t.Helper()
	for _, want := range fds {
		if fd := p.mark(); fd != want {
			p.t.Fatalf("%s: Open = %d, want %d", p.what, fd, want)
		}
	}
	p.look()
}

// noise gives numbers that hang on where it began alone.
type noise uint64

func (n *noise) below(limit int) int {
	*n = *n*6364136223846793005 + 1442695040888963407
	return int(*n>>33) % limit
}

// pick gives one of the list.
func pick[T any](n *noise, list []T) T { return list[n.below(len(list))] }

// shuffled gives the numbers below the count in some order.
func (n *noise) shuffled(count int) []int {
	list := upTo(0, count)
	for i := range list {
		j := i + n.below(count-i)
		list[i], list[j] = list[j], list[i]
	}
	return list
}

// upTo gives the numbers from a on, below b.
func upTo(a, b int) []int {
	var all []int
	for i := a; i < b; i++ {
		all = append(all, i)
	}
	return all
}

// orders gives each order of the list.
func orders(list []int) [][]int {
	if len(list) == 0 {
		return [][]int{nil}
	}
	var all [][]int
	for _, rest := range orders(list[1:]) {
		for i := range len(rest) + 1 {
			all = append(all, slices.Insert(slices.Clone(rest), i, list[0]))
		}
	}
	return all
}

package merge

import (
	"fmt"
	"math"
	"slices"
	"testing"

	"lagoon/api"
)

// order is what a queue goes by.
type order func(a, b api.ID) bool

// What follows are the chapter's words, written down plainly, to hold the package against.

func plainLess(a, b api.ID) bool {
	return a.Time < b.Time || a.Time == b.Time && a.Node < b.Node
}

// plainSorted puts each operation ahead of the first one that is greater.
func plainSorted(lists ...[]api.Op) []api.Op {
	var sorted []api.Op
	for _, list := range lists {
		for _, o := range list {
			at := slices.IndexFunc(sorted, func(k api.Op) bool { return plainLess(o.Stamp, k.Stamp) })
			if at < 0 {
				at = len(sorted)
			}
			sorted = slices.Insert(sorted, at, o)
		}
	}
	return sorted
}

// plainQueue is a list in the order of coming, which is searched from its front.
type plainQueue struct {
	list []api.Op
	less order
}

func (p *plainQueue) first() (int, bool) {
	for i, o := range p.list {
		if !slices.ContainsFunc(p.list, func(k api.Op) bool { return p.less(k.Stamp, o.Stamp) }) {
			return i, true
		}
	}
	return 0, false
}

func (p *plainQueue) peek() (api.Op, bool) {
	at, ok := p.first()
	if !ok {
		return api.Op{}, false
	}
	return p.list[at], true
}

func (p *plainQueue) pop() (api.Op, bool) {
	o, ok := p.peek()
	if ok {
		at, _ := p.first()
		p.list = slices.Delete(p.list, at, at+1)
	}
	return o, ok
}

// pair is a queue and the plain one, which are told the same.
type pair struct {
	t     *testing.T
	what  string
	queue *Queue
	plain *plainQueue
}

func newPair(t *testing.T, what string, less order) *pair {
	return &pair{t, what, New(less), &plainQueue{less: less}}
}

func (p *pair) push(o api.Op) {
	p.t.Helper()
	p.queue.Push(o)
	p.plain.list = append(p.plain.list, o)
	p.wantLen()
}

func (p *pair) pop() {
	p.t.Helper()
	o, ok := p.queue.Pop()
	k, want := p.plain.pop()
	wantOp(p.t, p.what+": Pop", o, ok, k, want)
	p.wantLen()
}

func (p *pair) wantPeek() {
	p.t.Helper()
	o, ok := p.queue.Peek()
	k, want := p.plain.peek()
	wantOp(p.t, p.what+": Peek", o, ok, k, want)
}

func (p *pair) wantLen() {
	p.t.Helper()
	if n := p.queue.Len(); n != len(p.plain.list) {
		p.t.Fatalf("%s: Len = %d, want %d", p.what, n, len(p.plain.list))
	}
}

// drain takes out all, and looks once more.
func (p *pair) drain() {
	p.t.Helper()
	for range len(p.plain.list) + 1 {
		p.wantPeek()
		p.pop()
	}
}

// The calls of a test.

func id(time int64, node int) api.ID { return api.ID{Time: time, Node: node} }

func op(time int64, node int, name string) api.Op {
	return api.Op{Stamp: id(time, node), Name: name}
}

// full gives an operation in which each field has a value that hangs on n, Seen one that is not in normal form.
func full(stamp api.ID, n int) api.Op {
	m := int64(n)
	return api.Op{Stamp: stamp, Seq: m + 1, Kind: n + 2, Obj: id(m+3, n+4), Parent: id(m+5, n+6), Name: fmt.Sprint("name ", n), Data: []byte(fmt.Sprint("data ", n)), Seen: api.Vector{m, -m, 0, 0}}
}

func same(a, b api.Op) bool {
	return a.Stamp == b.Stamp && a.Seq == b.Seq && a.Kind == b.Kind && a.Obj == b.Obj && a.Parent == b.Parent && a.Name == b.Name && string(a.Data) == string(b.Data) && slices.Equal(a.Seen, b.Seen)
}

func wantOp(t *testing.T, what string, o api.Op, ok bool, want api.Op, wantOk bool) {
	t.Helper()
	if ok != wantOk || !same(o, want) {
		t.Fatalf("%s = %.200v, %v; want %.200v, %v", what, o, ok, want, wantOk)
	}
}

func wantList(t *testing.T, what string, got, want []api.Op) {
	t.Helper()
	if !slices.EqualFunc(got, want, same) {
		t.Fatalf("%s = %.400v; want %.400v", what, got, want)
	}
}

func wantNames(t *testing.T, what string, os []api.Op, want string) {
	t.Helper()
	got := ""
	for _, o := range os {
		got += o.Name
	}
	if got != want {
		t.Errorf("%s = %q, want %q", what, got, want)
	}
}

// all takes out what the queue holds.
func all(t *testing.T, q *Queue) []api.Op {
	t.Helper()
	var os []api.Op
	for n := q.Len(); n > 0; n-- {
		o, ok := q.Pop()
		if !ok {
			t.Fatalf("a queue of %d gave none", n)
		}
		os = append(os, o)
	}
	wantEmpty(t, "a queue of which all is out", q)
	return os
}

func wantEmpty(t *testing.T, what string, q *Queue) {
	t.Helper()
	o, ok := q.Peek()
	wantOp(t, what+": Peek", o, ok, api.Op{}, false)
	o, ok = q.Pop()
	wantOp(t, what+": Pop", o, ok, api.Op{}, false)
	if n := q.Len(); n != 0 {
		t.Errorf("%s: Len = %d", what, n)
	}
}

func pushAll(q *Queue, os []api.Op) *Queue {
	for _, o := range os {
		q.Push(o)
	}
	return q
}

// noise gives numbers that hang on where it began alone.
type noise uint64

func (n *noise) below(limit int) int {
	*n = *n*6364136223846793005 + 1442695040888963407
	return int(*n>>33) % limit
}

// oddStamps has stamps that no clock gives, and those at the edges.
func oddStamps() []api.ID {
	var ids []api.ID
	for _, time := range []int64{math.MinInt64, -1, 0, 1, 1 << 60, math.MaxInt64} {
		for _, node := range []int{math.MinInt64, -1, 0, 1, 63, 64, math.MaxInt64} {
			ids = append(ids, id(time, node))
		}
	}
	return ids
}

// byNode is a stamp whose order is a method: by the node alone, the greater first.
type byNode api.ID

func (a byNode) less(b byNode) bool { return a.Node > b.Node }

// step is a stamp that is less than those that are greater both in time and in node.
type step api.ID

func (a step) less(b step) bool { return a.Time < b.Time && a.Node < b.Node }

// over makes an order of stamps of a method expression.
func over[T ~struct {
	Time int64
	Node int
}](less func(a, b T) bool) order {
	return func(a, b api.ID) bool { return less(T(a), T(b)) }
}

// reverse gives the order the other way round.
func reverse(less order) order {
	return func(a, b api.ID) bool { return less(b, a) }
}

// strict has strict orders: total ones, such in which different stamps are equal, and such in which they are neither.
func strict() map[string]order {
	return map[string]order{
		"by stamps":           plainLess,
		"by stamps, reversed": reverse(plainLess),
		"by time":             func(a, b api.ID) bool { return a.Time < b.Time },
		"by node":             over(byNode.less),
		"by node, reversed":   reverse(over(byNode.less)),
		"odd times first":     func(a, b api.ID) bool { return a.Time%2 > b.Time%2 },
		"none less":           func(a, b api.ID) bool { return false },
		"both":                over(step.less),
		"both, reversed":      reverse(over(step.less)),
		"far apart":           func(a, b api.ID) bool { return a.Time+3 < b.Time },
		"within a node":       func(a, b api.ID) bool { return a.Node == b.Node && a.Time < b.Time },
		"just one less":       func(a, b api.ID) bool { return a == id(2, 1) && b == id(3, 0) },
	}
}

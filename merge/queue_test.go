package merge

import (
	"fmt"
	"slices"
	"testing"

	"lagoon/api"
	"lagoon/clock"
)

// some has operations of which several have the same stamp, the same time, or the same node.
func some() []api.Op {
	return []api.Op{op(3, 1, "a"), op(1, 2, "b"), op(3, 1, "c"), op(2, 0, "d"), op(1, 0, "e"), op(3, 0, "f"), op(1, 2, "g")}
}

func TestNewIsEmpty(t *testing.T) { // P14.1
	wantEmpty(t, "New(nil)", New(nil))
	for what, less := range strict() {
		wantEmpty(t, what, New(less))
	}
}

func TestOrders(t *testing.T) { // P14.1, P0.7
	wantNames(t, "New(nil)", all(t, pushAll(New(nil), some())), "ebgdfac")
	wantNames(t, "New(clock.Less)", all(t, pushAll(New(clock.Less), some())), "ebgdfac")
	wantNames(t, "the reverse", all(t, pushAll(New(reverse(clock.Less)), some())), "acfdbge")
	wantNames(t, "a method expression", all(t, pushAll(New(over(byNode.less)), some())), "bgacdef")
	wantNames(t, "its reverse", all(t, pushAll(New(reverse(over(byNode.less))), some())), "defacbg")
	wantNames(t, "a method value", all(t, pushAll(New(onlyNode(1).first), some())), "acbdefg")
}

// onlyNode is a node whose stamps stand ahead of all others.
type onlyNode int

func (n onlyNode) first(a, b api.ID) bool { return a.Node == int(n) && b.Node != int(n) }

func TestNilOrderAtOddStamps(t *testing.T) { // P14.1, P0.7
	for _, less := range []func(a, b api.ID) bool{nil, clock.Less} {
		q := New(less)
		var want []api.Op
		for i, stamp := range slices.Backward(oddStamps()) {
			q.Push(full(stamp, i))
			want = slices.Insert(want, 0, full(stamp, i))
		}
		wantList(t, "odd stamps", all(t, q), want)
	}
}

func TestPopOfEqualOnes(t *testing.T) { // P14.1
	for what, less := range strict() {
		q := New(less)
		want := ""
		for i := range 40 {
			name := string(rune(65 + i))
			want += name
			q.Push(op(7, 3, name))
		}
		wantNames(t, what, all(t, q), want)
	}
}

// Those that are equal keep their turns when others come and go between.
func TestEqualOnesWithOthersBetween(t *testing.T) { // P14.1
	q := New(nil)
	pushAll(q, []api.Op{op(5, 0, "a"), op(1, 0, "x"), op(5, 0, "b"), op(9, 0, "z")})
	wantPop(t, q, "x")
	q.Push(op(5, 0, "c"))
	q.Push(op(0, 0, "y"))
	wantPop(t, q, "y")
	wantPop(t, q, "a")
	q.Push(op(5, 0, "d"))
	wantPop(t, q, "b")
	q.Push(op(9, 0, "w"))
	wantPop(t, q, "c")
	wantPop(t, q, "d")
	wantPop(t, q, "z")
	q.Push(op(9, 0, "v"))
	wantPop(t, q, "w")
	wantPop(t, q, "v")
	wantEmpty(t, "at the end", q)
}

func wantPop(t *testing.T, q *Queue, name string) {
	t.Helper()
	o, ok := q.Pop()
	if !ok || o.Name != name {
		t.Errorf("Pop = %q, %v; want %q", o.Name, ok, name)
	}
}

func TestPeekLeavesAndPopTakesOut(t *testing.T) { // P14.1
	for what, less := range strict() {
		p := newPair(t, what, less)
		for _, o := range some() {
			p.push(o)
			for range 3 {
				p.wantPeek()
				p.wantLen()
			}
		}
		p.drain()
	}
}

func TestLenBehindEachCall(t *testing.T) { // P14.1
	q := New(nil)
	for i := range 50 {
		if q.Push(op(int64(i%7), 0, "")); q.Len() != i+1 {
			t.Fatalf("Len = %d behind %d Pushes", q.Len(), i+1)
		}
	}
	for i := range 50 {
		if q.Pop(); q.Len() != 49-i {
			t.Fatalf("Len = %d behind %d Pops", q.Len(), i+1)
		}
	}
	for range 3 {
		if q.Pop(); q.Len() != 0 {
			t.Fatalf("Len = %d behind a Pop of an empty queue", q.Len())
		}
	}
}

// A queue that has been emptied is as a new one.
func TestUsedAgain(t *testing.T) { // P14.1
	for what, less := range strict() {
		p := newPair(t, what, less)
		p.drain()
		for range 4 {
			for _, o := range some() {
				p.push(o)
			}
			p.drain()
		}
	}
}

func TestEachFieldComesOut(t *testing.T) { // P14.1
	for what, less := range strict() {
		p := newPair(t, what, less)
		for i := range 20 {
			p.push(full(id(int64(i*3%5), i*7%4), i))
		}
		p.push(api.Op{})
		p.push(api.Op{Data: []byte{}, Seen: api.Vector{}})
		p.drain()
	}
}

// The same operation several times is in it several times.
func TestTheSameOperationAgain(t *testing.T) { // P14.1
	p := newPair(t, "the same", clock.Less)
	for range 5 {
		p.push(full(id(1, 1), 1))
	}
	p.drain()
}

func TestAgainstThePlainQueue(t *testing.T) { // P14.1
	for what, less := range strict() {
		n := noise(len(what))
		for range 40 {
			p := newPair(t, what, less)
			// How many of ten calls are Pushes: queues that grow, that stay, and that are often empty.
			pushes, spread := 3+n.below(5), 1+n.below(12)
			for i := range 150 {
				if n.below(10) < pushes {
					p.push(op(int64(n.below(spread)), n.below(4), fmt.Sprint(i)))
				} else {
					p.pop()
				}
				if n.below(3) == 0 {
					p.wantPeek()
				}
			}
			p.drain()
		}
	}
}

// table is an order of the times 0 to 3, written out.
type table [4][4]bool

func (l *table) less(a, b api.ID) bool { return l[a.Time][b.Time] }

func (l *table) isStrict() bool {
	for a := range 4 {
		for b := range 4 {
			for c := range 4 {
				if l[a][a] || l[a][b] && l[b][c] && !l[a][c] {
					return false
				}
			}
		}
	}
	return true
}

// tables has all strict orders of four stamps.
func tables() []*table {
	var strict []*table
	for bits := range 1 << 12 {
		l := new(table)
		for a := range 4 {
			for b := range 4 {
				if a != b {
					l[a][b] = bits&1 == 1
					bits >>= 1
				}
			}
		}
		if l.isStrict() {
			strict = append(strict, l)
		}
	}
	return strict
}

func TestAllStrictOrdersOfFourStamps(t *testing.T) { // P14.1
	orders := tables()
	if len(orders) != 219 {
		t.Fatalf("the test itself is wrong: %d orders", len(orders))
	}
	n := noise(3)
	for i, l := range orders {
		for range 30 {
			p := newPair(t, fmt.Sprint("order ", i, ": ", *l), l.less)
			for k := range 24 {
				switch n.below(6) {
				case 0:
					p.pop()
				case 1:
					p.wantPeek()
					p.pop()
				default:
					p.push(op(int64(n.below(4)), 0, fmt.Sprint(k)))
				}
			}
			p.drain()
		}
	}
}

// c is neither less than a or b nor greater, but a is less than b: so b waits for a, and c, which came ahead of a, is the first.
func TestStampsThatAreNeither(t *testing.T) { // P14.1
	a, b, c := op(1, 1, "a"), op(2, 2, "b"), op(9, 0, "c")
	for want, os := range map[string][]api.Op{"cab": {b, c, a}, "abc": {b, a, c}, "acb": {a, c, b}} {
		wantNames(t, want, all(t, pushAll(New(over(step.less)), os)), want)
	}
}

func TestManyOperations(t *testing.T) { // P14.1, P0.1
	const many = 100000
	n := noise(4)
	q := New(reverse(clock.Less))
	for i := range many {
		q.Push(api.Op{Stamp: id(int64(n.below(many)), n.below(64)), Seq: int64(i)})
	}
	last, _ := q.Peek()
	for i, o := range all(t, q) {
		if plainLess(last.Stamp, o.Stamp) || i > 0 && last.Stamp == o.Stamp && last.Seq >= o.Seq {
			t.Fatalf("%v behind %v", o, last)
		}
		last = o
	}
}

func TestQueuesKnowNothingOfEachOther(t *testing.T) { // P0.5
	a, b, c := newPair(t, "a", clock.Less), newPair(t, "b", clock.Less), newPair(t, "c", over(byNode.less))
	for i, o := range some() {
		a.push(o)
		c.push(o)
		if i%2 == 0 {
			b.push(full(o.Stamp, i))
			c.pop()
		}
	}
	a.pop()
	a.pop()
	b.pop()
	for _, o := range some() {
		b.push(o)
	}
	a.drain()
	c.drain()
	b.drain()
	wantEmpty(t, "another", New(nil))
	wantNames(t, "Sorted", Sorted(some()), "ebgdfac")
}

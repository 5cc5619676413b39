package merge

import (
	"fmt"
	"slices"
	"testing"

	"lagoon/api"
)

func TestNilQueue(t *testing.T) { // P14.1
	var none *Queue
	wantEmpty(t, "nil", none)
	for range 3 {
		none.Push(full(id(1, 1), 1))
		none.Push(api.Op{})
		wantEmpty(t, "nil, behind a Push", none)
	}
}

// P0.1: a Queue that New didn't make is as New(nil) gives it.
func TestZeroQueue(t *testing.T) {
	var q Queue
	wantEmpty(t, "zero", &q)
	wantNames(t, "zero", all(t, pushAll(&q, some())), "ebgdfac")
	wantNames(t, "zero, again", all(t, pushAll(&q, some())), "ebgdfac")
}

// notStrict has functions that are no strict order.
func notStrict() map[string]order {
	n, asked := noise(5), 0
	return map[string]order{
		"always less": func(a, b api.ID) bool { return true },
		"not greater": func(a, b api.ID) bool { return !plainLess(b, a) },
		"not equal":   func(a, b api.ID) bool { return a != b },
		"in a ring":   func(a, b api.ID) bool { return (b.Time-a.Time+5)%5 == 1 },
		"half a ring": func(a, b api.ID) bool { d := (b.Time - a.Time + 5) % 5; return d == 1 || d == 2 },
		"next ones":   func(a, b api.ID) bool { return b.Time-a.Time == 1 },
		"noise":       func(a, b api.ID) bool { return n.below(2) == 0 },
		"in turns":    func(a, b api.ID) bool { asked++; return asked%3 == 0 },
		"panic":       func(a, b api.ID) bool { panic("no order") },
		"some panic": func(a, b api.ID) bool {
			if asked++; asked%4 == 0 {
				panic(nil)
			}
			return plainLess(a, b)
		},
	}
}

// P14.1, P0.1: any of them may come, but each comes once, and a Peek tells which, where the function is of one mind.
func TestNoStrictOrder(t *testing.T) {
	for what, less := range notStrict() {
		n := noise(6)
		for range 20 {
			q, in := New(less), map[string]int{}
			take := func() {
				o, ok := q.Pop()
				if ok != (len(in) > 0) || ok && in[o.Name] != 1 || !ok && !same(o, api.Op{}) {
					t.Fatalf("%s: Pop = %v, %v with %d in it", what, o, ok, len(in))
				}
				delete(in, o.Name)
			}
			for i := range 200 {
				if n.below(5) < 3 {
					o := op(int64(n.below(5)), n.below(2), fmt.Sprint(i))
					q.Push(o)
					in[o.Name] = 1
				} else {
					take()
				}
				o, ok := q.Peek()
				if q.Len() != len(in) || ok != (len(in) > 0) || ok && in[o.Name] != 1 {
					t.Fatalf("%s: Len = %d, Peek = %v, %v with %d in it", what, q.Len(), o, ok, len(in))
				}
			}
			for len(in) > 0 {
				take()
			}
			wantEmpty(t, what, q)
		}
	}
}

// P0.1: an order that panics at some stamps has not said that they are less, and holds at the others.
func TestAnOrderThatPanics(t *testing.T) {
	less := func(a, b api.ID) bool {
		if a.Node == 9 || b.Node == 9 {
			panic("node 9")
		}
		return plainLess(a, b)
	}
	q := pushAll(New(less), []api.Op{op(4, 0, "a"), op(3, 0, "b"), op(1, 9, "c"), op(2, 0, "d"), op(0, 9, "e")})
	wantNames(t, "an order that panics", all(t, q), "cdbae")
}

// P0.1: an order that calls the queue that asks it. Nothing is promised of what it is told there.
func TestAnOrderThatCallsTheQueue(t *testing.T) {
	for _, within := range []func(q *Queue){
		func(q *Queue) { q.Push(op(0, 0, "within")) },
		func(q *Queue) { q.Pop() },
		func(q *Queue) { q.Peek() },
		func(q *Queue) { q.Len() },
		func(q *Queue) { q.Pop(); q.Push(op(9, 9, "within")); q.Pop(); q.Pop(); q.Peek() },
	} {
		for _, less := range strict() {
			var q *Queue
			q = New(func(a, b api.ID) bool { within(q); return less(a, b) })
			pushAll(q, some())
			names := []string{}
			for _, o := range all(t, q) {
				if o.Name != "within" {
					names = append(names, o.Name)
				}
			}
			slices.Sort(names)
			if len(slices.Compact(names)) != len(names) {
				t.Errorf("some came twice: %v", names)
			}
		}
	}
}

// P0.1: an order that calls another queue.
func TestAnOrderThatCallsAnotherQueue(t *testing.T) {
	other := New(nil)
	q := New(func(a, b api.ID) bool {
		other.Push(api.Op{Stamp: b})
		other.Push(api.Op{Stamp: a})
		least, _ := other.Pop()
		other.Pop()
		return least.Stamp == a && a != b
	})
	wantNames(t, "by another queue", all(t, pushAll(q, some())), "ebgdfac")
	wantEmpty(t, "the other", other)
}

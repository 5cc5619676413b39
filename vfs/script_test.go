package vfs

import (
	"fmt"
	"math"
	"slices"
	"strings"
	"testing"

	"lagoon/api"
	"lagoon/clock"
	"lagoon/ops"
	"lagoon/path"
	"lagoon/vector"
)

// world is some machines, and the operations that each of them made.
type world struct {
	t     *testing.T
	pairs []*pair
	made  map[int][]api.Op // by node
}

// newWorld has machines of the nodes, whose clocks begin apart.
func newWorld(t *testing.T, what string, nodes ...int) *world {
	t.Helper()
	w := &world{t: t, made: map[int][]api.Op{}}
	for i, node := range nodes {
		w.pairs = append(w.pairs, newPairOf(t, fmt.Sprint(what, ", node ", node), node, int64(i*7)))
	}
	return w
}

// do makes the call on the machine, and holds what it made.
func (w *world) do(p *pair, c api.Call, fits func(os ...api.Op) bool) {
	w.t.Helper()
	before := p.fs.Vector()
	_, made := p.doIf(c, fits)
	for _, o := range made {
		node := p.plain.node
		if !ops.May(o) || o.Stamp.Node != node || o.Seq != vector.At(before, node)+1 || !vector.Eq(o.Seen, before) {
			w.t.Fatalf("%s: %s made %s behind %v", p.what, short(c), short(o), before)
		}
		before = vector.With(before, node, o.Seq)
		w.made[node] = append(w.made[node], o)
	}
	if v := p.fs.Vector(); !vector.Eq(v, before) {
		w.t.Fatalf("%s: Vector = %v behind %s, want %v", p.what, v, short(c), before)
	}
}

// pass gives the machine the next operation of another node, if there is one: it may still be refused for what it has seen.
func (w *world) pass(p, from *pair) bool {
	w.t.Helper()
	os, at := w.made[from.plain.node], int(p.plain.seen[from.plain.node])
	return at < len(os) && p.loadOne(os[at]) == api.OK
}

// settle gives all operations to all machines.
func (w *world) settle() {
	w.t.Helper()
	for moved := true; moved; {
		moved = false
		for _, p := range w.pairs {
			for _, from := range w.pairs {
				for w.pass(p, from) {
					moved = true
				}
			}
		}
	}
	first := w.pairs[0]
	for _, p := range w.pairs {
		p.look()
		if a, b := shape(p.fs.View(), ops.Root()), shape(first.fs.View(), ops.Root()); a != b || !slices.Equal(p.fs.Vector(), first.fs.Vector()) {
			w.t.Fatalf("%s: %s, %v; want %s, %v", p.what, a, p.fs.Vector(), b, first.fs.Vector())
		}
	}
	w.replay()
}

// replay loads all operations, by rising stamps, into another machine, which sees the same then.
func (w *world) replay() {
	w.t.Helper()
	var all []api.Op
	for _, os := range w.made {
		all = append(all, os...)
	}
	slices.SortFunc(all, func(a, b api.Op) int { return clock.Cmp(a.Stamp, b.Stamp) })
	other := New(60, clock.New(60, 0, 0))
	for _, o := range all {
		if e := other.Load(o); e != api.OK {
			w.t.Fatalf("Load(%s) = %d", short(o), e)
		}
	}
	if a, b := shape(other.View(), ops.Root()), shape(w.pairs[0].fs.View(), ops.Root()); a != b {
		w.t.Fatalf("loaded anew: %s, want %s", a, b)
	}
}

// path gives one that is mostly near to what is there.
func (n *noise) path(p *pair) string {
	if n.below(40) == 0 {
		return pick(n, []string{"", "/", "//", "x", "/a/", "/a/../b", "/a\x01", long, deep, "/" + name65, "/a/\x00"})
	}
	var names []string
	at := ops.Root()
	for range n.below(4) {
		list, e := p.plain.view.List(at)
		if e != api.OK || len(list) == 0 {
			break
		}
		x := pick(n, list)
		names, at = append(names, x.Name), x.Obj
	}
	if n.below(3) == 0 {
		names = append(names, pick(n, []string{"a", "b", "c", "a", "b", "a\x019.1"}))
	}
	return path.Join(names)
}

// fd gives mostly one that is open.
func (n *noise) fd(p *pair) int {
	if n.below(12) == 0 {
		return pick(n, []int{-1, 0, 1, 31, 32, 99, math.MinInt, math.MaxInt})
	}
	return n.below(len(p.plain.open) + 1)
}

// call gives one of those that the mood likes.
func (n *noise) call(p *pair, fns []int) api.Call {
	c := api.Call{Fn: pick(n, fns), Path: n.path(p), To: n.path(p), Fd: n.fd(p)}
	switch c.Fn {
	case api.COpen:
		c.Flags = pick(n, []int{0, create, create, create | writes, create | writes, writes | app, create | excl, trunc | writes, n.below(34) - 1})
	case api.CRead:
		c.N = pick(n, []int{0, 1, 2, 3, 100, 65536, 65537, -1})
	case api.CWrite:
		c.Data = []byte(pick(n, []string{"", "x", "yz", "longer than others", strings.Repeat("x", 65530+n.below(8))}))
		if n.below(4) > 0 {
			c.Data = c.Data[:min(len(c.Data), 20)]
		}
	case api.CSeek:
		c.N, c.Flags = pick(n, []int{0, 1, -1, 3, -3, 20, 65530, 65537, 1 << 30, -1 << 30, math.MaxInt, math.MinInt}), n.below(5)-1
	case api.CTruncate:
		c.N = pick(n, []int{0, 1, 2, 3, 20, 65536, 65537, -1})
		if n.below(3) > 0 {
			c.N = n.below(6)
		}
	case api.CResolve:
		c.N = n.below(5) - 1
	}
	return c
}

// moods are the functions that scripts like, some more often than others.
func moods() [][]int {
	all := []int{0, 17}
	for fn := 1; fn <= 16; fn++ {
		all = append(all, fn, fn)
	}
	trees := []int{api.CMkdir, api.CMkdir, api.COpen, api.CRmdir, api.CUnlink, api.CRename, api.CRename, api.CRename}
	files := []int{api.COpen, api.COpen, api.CWrite, api.CWrite, api.CWrite, api.CRead, api.CSeek, api.CClose, api.CUnlink, api.CRename, api.CTruncate}
	versions := []int{api.COpen, api.CWrite, api.CWrite, api.CTruncate, api.CTruncate, api.CResolve, api.CResolve, api.CConflicts}
	return [][]int{all, trees, files, versions}
}

// fits gives mostly one that tells true; it hangs on what it is asked of alone, so both that are asked tell the same.
func (n *noise) fits() func(os ...api.Op) bool {
	return pick(n, []func(os ...api.Op) bool{
		nil, nil, nil, nil, nil,
		func(os ...api.Op) bool { return true },
		func(os ...api.Op) bool { return len(os) == 1 },
		func(os ...api.Op) bool { return len(os[0].Data) < 15 },
		func(os ...api.Op) bool { return os[0].Stamp.Time%3 > 0 },
		func(os ...api.Op) bool { return false },
	})
}

func TestScriptsOfOneMachine(t *testing.T) { // P21.2
	for i, fns := range moods() {
		for seed := range 40 {
			n := noise(seed*len(moods()) + i)
			w := newWorld(t, fmt.Sprint("mood ", i, ", seed ", seed), n.below(64))
			p := w.pairs[0]
			for range 150 {
				w.do(p, n.call(p, fns), n.fits())
				if n.below(25) == 0 {
					p.look()
				}
				if n.below(100) == 0 {
					p.clear()
				}
			}
			w.settle()
		}
	}
}

func TestScriptsOfManyMachines(t *testing.T) { // P21.1, P21.2
	for i, fns := range moods() {
		for seed := range 25 {
			n := noise(seed*len(moods()) + i + 5000)
			w := newWorld(t, fmt.Sprint("mood ", i, ", seed ", seed), 0, 5, 1, 63)
			often := 1 + n.below(6)
			for range 250 {
				p := pick(&n, w.pairs)
				if n.below(often) > 0 {
					w.pass(p, pick(&n, w.pairs))
				} else {
					w.do(p, n.call(p, fns), n.fits())
				}
				if n.below(60) == 0 {
					p.look()
				}
			}
			w.settle()
			for range 40 { // on what has come together
				w.do(w.pairs[0], n.call(w.pairs[0], fns), nil)
			}
			w.settle()
		}
	}
}

// What is loaded may be in no order of stamps, and do whatever an operation may do.
func TestScriptsWithForeignOperations(t *testing.T) { // P21.1, P21.2
	for seed := range 100 {
		n := noise(seed + 9000)
		p := newPair(t, fmt.Sprint("seed ", seed))
		times := map[api.ID]bool{}
		for range 150 {
			if n.below(2) == 0 {
				p.do(n.call(p, moods()[0]))
				continue
			}
			o := n.foreign(p)
			if e := p.loadOne(o); e == api.OK && times[o.Stamp] {
				t.Fatalf("%v is there twice", o.Stamp)
			} else if e == api.OK {
				times[o.Stamp] = true
			}
		}
		p.look()
	}
}

// foreign gives an operation of another node, which mostly is due.
func (n *noise) foreign(p *pair) api.Op {
	near := p.plain.time + 3
	some := func() api.ID { return pick(n, n.objects(p)) }
	o := api.Op{Stamp: id(1+int64(n.below(int(near))), n.below(2)*3), Kind: 1 + n.below(4), Obj: some(), Parent: some()}
	o.Seen = vector.Norm(p.plain.vector())
	if n.below(3) == 0 { // has not seen all
		node := n.below(4)
		if node != o.Stamp.Node {
			o.Seen = vector.With(o.Seen, node, int64(n.below(int(vector.At(o.Seen, node))+1)))
		}
	}
	o = numbered(o)
	switch o.Kind {
	case api.KDir, api.KFile:
		o.Obj, o.Name = o.Stamp, pick(n, []string{"a", "b", "c"})
	case api.KMove:
		o.Name = pick(n, []string{"a", "b", "c"})
	case api.KWrite:
		o.Parent, o.Data = api.ID{}, []byte(pick(n, []string{"", "x", "foreign"}))
	}
	if n.below(10) == 0 {
		o.Seq += int64(n.below(3)) - 1
	}
	return o
}

// objects are those that are seen, the root and the trash.
func (n *noise) objects(p *pair) []api.ID {
	all := []api.ID{ops.Root(), ops.Root(), ops.Trash(), id(3, 3)}
	var below func(dir api.ID)
	below = func(dir api.ID) {
		list, _ := p.plain.view.List(dir)
		for _, x := range list {
			all = append(all, x.Obj)
			below(x.Obj)
		}
	}
	below(ops.Root())
	return all
}

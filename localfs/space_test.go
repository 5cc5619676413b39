package localfs

import (
	"fmt"
	"strings"
	"testing"

	"lagoon/api"
)

// filled is a file system whose cost is the capacity less spare.
func filled(t *testing.T, capacity, spare int) (*FS, state) {
	t.Helper()
	_, f := made(t, blocksOf(capacity))
	s := must(t, f, empty(), mkdir("d"), replace("d/f", "x"), create("big"))
	// Blocks that a file has not are paid for all the same.
	s = must(t, f, s, truncate("big", 512*(capacity-spare-f.Cost())))
	if f.Cost() != capacity-spare {
		t.Fatalf("Cost = %d, want %d", f.Cost(), capacity-spare)
	}
	return f, s
}

func TestCostAtTheCapacityAndAboveIt(t *testing.T) { // P11.3
	for _, x := range []struct {
		c     call
		needs int
	}{
		{create("x"), 1}, {mkdir("x"), 2}, {create("d/x"), 1}, {mkdir("d/x"), 2}, {write("d/f", 512, "y"), 1}, {write("d/f", 2000, "y"), 3}, {truncate("d/f", 513), 1}, {truncate("d/f", 1025), 2},
		{replace("x", ""), 1}, {replace("x", "y"), 2}, {replace("d/f", strings.Repeat("y", 600)), 1}, {replace("d/f", strings.Repeat("y", 2000)), 3},
	} {
		for spare := range x.needs + 2 {
			f, s := filled(t, 15, spare)
			want := api.ENOSPC
			if spare >= x.needs {
				want = api.OK
			}
			next, plain := s.after(x.c, 15)
			if got := x.c.on(f); got.e != want || got != plain {
				t.Errorf("%v with %d spare = %d, want %d", x.c, spare, got.e, want)
			}
			wantState(t, f, next)
			wantWhole(t, f)
		}
	}
}

func TestARenameThatCosts(t *testing.T) { // P11.3
	names := []call{mkdir("d"), mkdir("e"), create("d/1"), create("d/2"), create("e/1"), create("e/2"), create("e/3"), create("e/4"), create("x")}
	for _, spare := range []int{0, 1} {
		_, f := made(t, blocksOf(20))
		s := must(t, f, empty(), names...)
		s = must(t, f, s, truncate("x", 512*(20-spare-f.Cost())))
		next, want := s.after(rename("d/1", "e/5"), 20)
		if want.e == api.OK != (spare == 1) {
			t.Fatalf("the test itself is wrong: %d", want.e)
		}
		if e := f.Rename(to("d/1"), to("e/5")); e != want.e {
			t.Errorf("Rename with %d spare = %d, want %d", spare, e, want.e)
		}
		// It tells so behind its other errors alone.
		for _, c := range []call{rename("d", "e"), rename("d/1", "e"), rename("d", "d/3"), rename("d/2", "."), rename("d/2", "no/2")} {
			_, want := next.after(c, 20)
			if got := c.on(f); got != want || want.e == api.ENOSPC || want.e == api.OK {
				t.Errorf("%v = %d, want %d", c, got.e, want.e)
			}
		}
		next = must(t, f, next, rename("d/2", "e/4"), rename("e/3", "3"))
		wantState(t, f, next)
	}
}

func TestCostThatIsAboveTheCapacity(t *testing.T) { // P11.3: what makes it no greater is done
	_, f := made(t, blocksOf(60))
	s := must(t, f, empty(), mkdir("d"), replace("d/f", strings.Repeat("x", 2000)), create("d/g"), create("d/h"), mkdir("e"), create("4"), create("5"), create("6"))
	f.capacity = 6
	for _, x := range []wanted{
		{create("x"), api.ENOSPC}, {mkdir("d/x"), api.ENOSPC}, {write("d/f", 2048, "y"), api.ENOSPC}, {replace("d/g", "y"), api.ENOSPC}, {truncate("d/g", 1), api.ENOSPC}, {replace("e/x", ""), api.ENOSPC}, {rename("d/h", "e/h"), api.ENOSPC},
		{write("d/f", 2000, "to the block's end"), 0}, {rename("d/g", "d/i"), 0}, {truncate("d/f", 1600), 0}, {truncate("d/f", 1000), 0}, {replace("d/f", "y"), 0}, {remove("d/h"), 0}, {rename("d/f", "d/i"), 0}, {rename("4", "5"), 0}, {remove("e"), 0},
	} {
		next, plain := s.after(x.c, 6)
		if got := x.c.on(f); got.e != x.e || got != plain {
			t.Errorf("%v = %d, want %d, %d", x.c, got.e, x.e, plain.e)
		}
		s = next
		wantState(t, f, s)
	}
	if f.Cost() <= 6 {
		t.Errorf("Cost = %d: the test itself is wrong", f.Cost())
	}
	wantWhole(t, f)
}

func TestAFullDirectory(t *testing.T) { // P11.3
	d, f := made(t, blocksOf(3000))
	s := must(t, f, empty(), mkdir("d"), mkdir("e"), replace("e/x", "x"), mkdir("e/y"))
	for i := range 2048 {
		c := create(fmt.Sprintf("d/%0*d", 4+i%61, i))
		if got := c.on(f); got.e != api.OK {
			t.Fatalf("%v = %d", c, got.e)
		}
		s[join(c.p)] = item{}
	}
	if f.Cost() != s.cost() {
		t.Errorf("Cost = %d, want %d", f.Cost(), s.cost())
	}
	last, other := join(create(fmt.Sprintf("d/%0*d", 4+2047%61, 2047)).p), fmt.Sprintf("d/%0*d", 4, 0)
	for _, x := range []wanted{
		{create("d/x"), api.ENOSPC}, {mkdir("d/x"), api.ENOSPC}, {replace("d/x", ""), api.ENOSPC}, {rename("e/x", "d/x"), api.ENOSPC}, {rename("e/y", "d/y"), api.ENOSPC}, {create(last), api.EEXIST}, {rename("d", "d/x"), api.EINVAL},
		{rename(last, "d/x"), 0}, {rename("e/x", "d/x"), 0}, {replace("d/x", "y"), 0}, {rename(other, "d/x"), 0}, {mkdir("d/x/y"), api.ENOTDIR}, {create("d/z"), 0}, {rename("d/z", "e/z"), 0}, {rename("e/y", "d/y"), 0}, {create("d/z"), api.ENOSPC}, {mkdir("d/y/y"), 0},
	} {
		next, plain := s.after(x.c, f.capacity)
		if got := x.c.on(f); got.e != x.e || got != plain {
			t.Errorf("%v = %d, want %d, %d", x.c, got.e, x.e, plain.e)
		}
		s = next
		if f.Cost() != s.cost() {
			t.Errorf("%v: Cost = %d, want %d", x.c, f.Cost(), s.cost())
		}
	}
	wantState(t, f, s)
	wantWhole(t, f)
	wantState(t, mounted(t, d), s)
}

func TestGreatDirectoriesGrowAndShrinkInOneCall(t *testing.T) { // P11.2, P11.3
	_, f := made(t, 65536)
	s := must(t, f, empty(), mkdir("a"), mkdir("b"))
	for i := range 1262 { // about where localdir lays all names down anew
		for _, name := range []string{"a/", "b/"} {
			if i < 1250 || name == "a/" {
				c := create(fmt.Sprint(name, i))
				if e := c.on(f).e; e != api.OK {
					t.Fatalf("%v = %d", c, e)
				}
				s[join(c.p)] = item{}
			}
		}
	}
	for i := range 12 {
		c := rename(fmt.Sprint("a/", i), fmt.Sprint("b/moved", i))
		if e := c.on(f).e; e != api.OK {
			t.Fatalf("%v = %d", c, e)
		}
		s.move(c.p, c.q)
		if f.Cost() != s.cost() {
			t.Fatalf("%v: Cost = %d, want %d", c, f.Cost(), s.cost())
		}
	}
	wantState(t, f, s)
	wantWhole(t, f)
	for i := 12; i < 1200; i++ {
		c := remove(fmt.Sprint("a/", i))
		if e := c.on(f).e; e != api.OK {
			t.Fatalf("%v = %d", c, e)
		}
		delete(s, join(c.p))
	}
	wantState(t, f, s)
	wantWhole(t, f)
}

// fill makes objects by next until one is refused, and then cheaper ones: the capacity must be reached, and nothing be told but ENOSPC.
func fill(t *testing.T, f *FS, next func(i int) call) {
	t.Helper()
	for i := 0; ; i++ {
		if e := next(i).on(f).e; e == api.ENOSPC {
			break
		} else if e != api.OK {
			t.Fatalf("%v = %d", next(i), e)
		}
	}
	for i := 0; f.Create([]string{fmt.Sprint("rest", i)}) == api.OK; i++ {
	}
	if f.Cost() < f.capacity-1 || f.Cost() > f.capacity {
		t.Errorf("Cost = %d, capacity %d", f.Cost(), f.capacity)
	}
	wantWhole(t, f)
}

func TestTheWholeCapacityIsThere(t *testing.T) { // P11.3
	bytes := func(size int) func(i int) call {
		return func(i int) call { return replace(fmt.Sprint(i), strings.Repeat("x", size)) }
	}
	for _, capacity := range []int{4, 5, 6, 7, 11, 40, 133, 134, 141, 300, 1000, 4093} {
		for name, next := range map[string]func(i int) call{
			"files":       func(i int) call { return create(fmt.Sprintf("d%d/%d", i%3, i)) },
			"directories": func(i int) call { return mkdir(fmt.Sprintf("d%d/%d", i%3, i)) },
			"all bytes":   bytes(65536),
			"many bytes":  bytes(37000),
			"some bytes":  bytes(4600),
			"few bytes":   bytes(1),
		} {
			_, f := made(t, blocksOf(capacity))
			for i := range 3 {
				f.Mkdir([]string{fmt.Sprint("d", i)})
			}
			if capacity < 11 && !strings.HasSuffix(name, "bytes") {
				continue
			}
			if fill(t, f, next); t.Failed() {
				t.Fatalf("%s, capacity %d", name, capacity)
			}
		}
	}
}

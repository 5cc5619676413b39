package vfs

import (
	"bytes"
	"fmt"
	"slices"
	"testing"

	"lagoon/api"
	"lagoon/clock"
	"lagoon/ops"
)

func spoilBytes(b []byte) {
	b = b[:cap(b)]
	for i := range b {
		b[i] ^= 0xff
	}
}

func spoilVector(v api.Vector) {
	v = v[:cap(v)]
	for i := range v {
		v[i] ^= 0xff
	}
}

func spoilOps(os []api.Op) {
	os = os[:cap(os)]
	for i, o := range os {
		spoilBytes(o.Data)
		spoilVector(o.Seen)
		os[i] = api.Op{Stamp: id(77, 7), Name: "spoiled"}
	}
}

func spoilResult(r api.Result) {
	spoilBytes(r.Data)
	list := r.List[:cap(r.List)]
	for i := range list {
		list[i] = api.Entry{Name: "spoiled", Obj: id(77, 7), Size: 7}
	}
}

// roomy gives the bytes with spare room that holds something, and a look at all of it.
func roomy(b []byte) ([]byte, func() string) {
	whole := append(bytes.Clone(b), "spare bytes"...)
	return whole[:len(b)], func() string { return string(whole) }
}

func TestWhatIsWrittenIsTheCallersOwn(t *testing.T) { // P0.3
	p := changePair(t, "a machine")
	for _, at := range []int{0, 2, 5, 9} {
		data, memory := roomy([]byte("data"))
		before := memory()
		c := api.Call{Fn: api.CWrite, Data: data}
		p.pass(seek(0, at, 0))
		_, made := p.do(c)
		text := textOf(made)
		if memory() != before {
			t.Errorf("Do changed what was handed in: %q", memory())
		}
		spoilBytes(data)
		if textOf(made) != text {
			t.Errorf("what was made is %s, was %s", textOf(made), text)
		}
		p.look()
		data, memory = roomy([]byte("data"))
		_, made = p.do(api.Call{Fn: api.CWrite, Fd: 1, Data: data})
		spoilOps(made)
		if memory() != before {
			t.Errorf("writing into what was made changed what was handed in: %q", memory())
		}
		p.look()
	}
}

func TestWhatIsLoadedIsTheCallersOwn(t *testing.T) { // P0.3
	p := changePair(t, "a machine")
	for i := range 20 {
		data, memory := roomy([]byte("data"))
		seen := append(p.fs.Vector(), 3, 4, 5)
		whole := slices.Clone(seen)
		o := puts(id(int64(200+i), 1), f, "")
		o.Data, o.Seen = data, seen[:len(seen)-3]
		before := memory()
		o = numbered(o)
		p.load(o)
		if e := p.loadOne(o); e != api.EINVAL {
			t.Errorf("Load = %d", e)
		}
		if memory() != before || !slices.Equal(seen, whole) {
			t.Errorf("Load changed what was handed in: %q, %v", memory(), seen)
		}
		spoilBytes(data)
		spoilVector(seen)
		p.look()
	}
}

// answering are calls whose answers have lists.
func answering() []api.Call {
	var all []api.Call
	for _, x := range changing() {
		all = append(all, x.call)
	}
	return append(all, read(0, 9), readdir("/"), readdir("/d"), conflicts("/d/f"))
}

// answers tells what a machine answers to many calls that change nothing.
func answers(m *FS) string {
	all := fmt.Sprint(m.Vector(), m.Open(), m.View().Len(), shape(m.View(), ops.Root()))
	for _, c := range []api.Call{readdir("/"), readdir("/d"), readdir(d3), conflicts("/d/f"), stat("/d/f"), read(0, 0), seek(0, 0, 1), seek(1, 0, 1)} {
		r, _ := m.Do(c, nil)
		all += fmt.Sprintf("%q", fmt.Sprint(r))
	}
	return all
}

func TestAnswersAreNewMemory(t *testing.T) { // P0.3
	for _, c := range answering() {
		p := changePair(t, fmt.Sprint(c))
		r, made := p.do(c)
		k, others := p.do(c) // whatever it comes to the second time
		v, w := p.fs.Vector(), p.fs.Vector()
		text, before := fmt.Sprint(k, others, w), answers(p.fs)
		spoilResult(r)
		spoilOps(made)
		spoilVector(v)
		if fmt.Sprint(k, others, w) != text {
			t.Errorf("%v: writing into one answer changed another one", c)
		}
		if after := answers(p.fs); after != before {
			t.Errorf("%v: writing into an answer changed the machine: %s, was %s", c, after, before)
		}
		p.look()
	}
}

// Lists of one answer are apart: each is written over, and the others stay.
func TestListsOfOneAnswerAreApart(t *testing.T) { // P0.3
	p := changePair(t, "a machine")
	_, made := p.do(rename("/d/f", "/g"))
	want := slices.Clone(made[1].Seen)
	spoilVector(made[0].Seen)
	if !slices.Equal(made[1].Seen, want) {
		t.Errorf("Seen of the second one is %v, was %v", made[1].Seen, want)
	}
	p.look()
}

// What fits does with the operations that it is asked of is not to be seen.
func TestFitsMayDoAsItLikes(t *testing.T) { // P0.3
	for _, x := range changing() {
		p := changePair(t, fmt.Sprint(x.call))
		var kept []api.Op
		r, made := p.fs.Do(x.call, func(os ...api.Op) bool {
			kept = os
			for _, o := range os {
				spoilBytes(o.Data)
				spoilVector(o.Seen)
			}
			clear(os)
			return true
		})
		want, wantMade := p.plain.do(x.call, nil)
		if !sameResult(r, want) || !slices.EqualFunc(made, wantMade, ops.Eq) {
			t.Errorf("%v: %v, %v; want %v, %v", x.call, r, made, want, wantMade)
		}
		p.look()

		p = changePair(t, fmt.Sprint(x.call))
		_, made = p.doIf(x.call, func(os ...api.Op) bool { kept = os; return true })
		text := fmt.Sprint(made)
		spoilOps(kept)
		if fmt.Sprint(made) != text {
			t.Errorf("%v: what was made hangs together with what fits was asked of", x.call)
		}
		text = fmt.Sprint(kept)
		spoilOps(made)
		if fmt.Sprint(kept) != text {
			t.Errorf("%v: what fits was asked of hangs together with what was made", x.call)
		}
		p.look()
	}
}

// What the machine answered stays, whatever comes then.
func TestAnswersStay(t *testing.T) { // P0.3
	p := changePair(t, "a machine")
	type kept struct {
		r    api.Result
		made []api.Op
		v    api.Vector
	}
	var all []kept
	n := noise(3)
	text := ""
	for range 120 {
		c := pick(&n, answering())
		r, made := p.do(c)
		all = append(all, kept{r, made, p.fs.Vector()})
		text += fmt.Sprint(all[len(all)-1])
	}
	after := ""
	for _, x := range all {
		after += fmt.Sprint(x)
	}
	if after != text {
		t.Error("an answer has changed")
	}
	p.look()
}

// The spare room of an answer is the caller's.
func TestSpareRoom(t *testing.T) { // P0.3
	p := changePair(t, "a machine")
	for _, c := range answering() {
		r, made := p.do(c)
		_, _ = append(r.Data, "more"...), append(r.List, api.Entry{Name: "more"})
		for _, o := range made {
			_, _ = append(o.Data, "more"...), append(o.Seen, 9)
		}
		_, _ = append(made, api.Op{}), append(p.fs.Vector(), 9)
		p.look()
	}
}

func TestNilAndEmptyListsAreTheSame(t *testing.T) { // P0.4
	var texts []string
	for _, seen := range []api.Vector{nil, {}, {0, 0}, make(api.Vector, 64)} {
		for _, data := range [][]byte{nil, {}} {
			p := changePair(t, "a machine")
			o := makes(api.KDir, id(99, 5), ops.Root(), "x")
			o.Seen, o.Data = seen, data
			k := puts(id(99, 6), f, "")
			k.Seen, k.Data = seen, data
			p.load(o, k).do(api.Call{Fn: api.CWrite, Data: data})
			texts = append(texts, answers(p.look().fs))
		}
	}
	if len(slices.Compact(texts)) != 1 {
		t.Errorf("%q", texts)
	}
}

func TestMachinesKnowNothingOfEachOther(t *testing.T) { // P0.5
	one, two, none := changePair(t, "one"), changePair(t, "two"), newPair(t, "none")
	n := noise(5)
	for range 40 {
		one.do(pick(&n, answering()))
		two.look()
		two.do(pick(&n, answering()))
		one.look()
		none.look()
	}
	one.clear()
	two.look()
	none.want(told{call: mkdir("/x"), made: "dir 1.2 in 0.0 as x"})
}

// Two machines may have one clock: then no stamp is theirs both.
func TestOneClockForTwo(t *testing.T) { // P0.5
	c := clock.New(2, 0, 0)
	one, two := New(2, c), New(2, c)
	met := map[api.ID]bool{}
	for i := range 20 {
		for _, m := range []*FS{one, two} {
			if _, made := m.Do(mkdir(fmt.Sprint("/", i)), nil); len(made) != 1 || met[made[0].Stamp] {
				t.Errorf("%d: made %v", i, made)
			} else {
				met[made[0].Stamp] = true
			}
		}
	}
}

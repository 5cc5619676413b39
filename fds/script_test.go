package fds

import (
	"fmt"
	"testing"
)

// Each script of a few Opens, Closes and Clears, behind three Opens.
func TestAllShortScripts(t *testing.T) { // P20.1
	const steps, kinds = 6, 5
	all := 1
	for range steps {
		all *= kinds
	}
	for script := range all {
		p := newPair(t, fmt.Sprint("script ", script))
		p.wantOpens(0, 1, 2)
		for range steps {
			switch k := script % kinds; k {
			case 3:
				p.mark()
			case 4:
				p.clear()
			default:
				p.close(k)
			}
			script /= kinds
		}
		p.look()
		p.mark()
		p.mark()
		p.look()
	}
}

// mood is how often, in a hundred steps, a script opens, closes, seeks, looks, and clears.
type mood struct{ opens, closes, seeks, looks, clears int }

func TestLongScripts(t *testing.T) { // P20.1
	moods := []mood{
		{40, 40, 10, 9, 1}, {60, 20, 15, 5, 0}, {70, 29, 0, 1, 0}, {20, 60, 15, 4, 1},
		{45, 45, 10, 0, 0}, {30, 25, 30, 5, 10}, {50, 10, 37, 3, 0}, {49, 49, 0, 2, 0},
	}
	for i, m := range moods {
		for seed := range 150 {
			n := noise(seed*len(moods) + i)
			p := newPair(t, fmt.Sprint("mood ", i, ", seed ", seed))
			for range 500 {
				p.step(&n, m)
			}
			p.look()
			p.fill()
		}
	}
}

func (p *pair) step(n *noise, m mood) {
	p.t.Helper()
	switch k := n.below(m.opens + m.closes + m.seeks + m.looks + m.clears); {
	case k < m.opens:
		p.open(pick(n, objects()), pick(n, someFlags()))
	case k < m.opens+m.closes:
		p.close(n.number())
	case k < m.opens+m.closes+m.seeks:
		p.seek(n.number(), pick(n, offsets()).at)
	case k < m.opens+m.closes+m.seeks+m.looks:
		p.look()
	default:
		p.clear()
	}
}

// number gives mostly one that may be open.
func (n *noise) number() int {
	if n.below(20) == 0 {
		return pick(n, strange())
	}
	return n.below(33)
}

// Rounds of many Closes in any order, then as many Opens and some more.
func TestManyClosesThenManyOpens(t *testing.T) { // P20.1
	for seed := range 400 {
		n := noise(seed)
		p := newPair(t, fmt.Sprint("seed ", seed))
		for range 1 + n.below(40) {
			p.mark()
		}
		for range 12 {
			p.close(n.shuffled(32)[:n.below(33)]...)
			for range n.below(40) {
				p.mark()
			}
			p.look()
		}
	}
}

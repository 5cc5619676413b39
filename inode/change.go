package inode

import (
	"lagoon/api"
	"lagoon/bcache"
	"lagoon/bitmap"
)

// change gathers what a call is to do to blocks and to the map. Nothing of it is done ahead of do, so that an error on the way leaves nothing to be undone.
type change struct {
	cache *bcache.Cache
	free  *bitmap.Map // tells what may be taken, as if all that was taken were done
	taken []int
	given []int
	puts  []api.Put
}

// freeOf gives a map of what may be taken from m: all that is free there but 0, which says that there is no block.
func freeOf(m *bitmap.Map) *bitmap.Map {
	free := m.Copy()
	// Refused where 0 is used already, or no number: both are as good.
	free.Set(0)
	return free
}

func (ch *change) get(number uint32) ([]byte, api.Errno) { return ch.cache.Get(int(number)) }

func (ch *change) put(number uint32, data []byte) {
	ch.puts = append(ch.puts, api.Put{Block: int(number), Data: data})
}

func (ch *change) take() (uint32, api.Errno) {
	i, e := ch.free.Take()
	if e != api.OK {
		return 0, e
	}
	ch.taken = append(ch.taken, i)
	return uint32(i), api.OK
}

func (ch *change) give(number uint32) { ch.given = append(ch.given, int(number)) }

// do does all, or nothing if the cache refuses.
func (ch *change) do(m *bitmap.Map) api.Errno {
	if e := ch.putAll(); e != api.OK {
		return e
	}
	for _, i := range ch.taken {
		m.Set(i)
	}
	// A number that m has not, or has free, is none that could be given back.
	for _, i := range ch.given {
		m.Give(i)
	}
	return api.OK
}

// putAll pins the blocks ahead of the first put: then no put can be refused, and an error leaves no block half of the way.
func (ch *change) putAll() api.Errno {
	for i, p := range ch.puts {
		if e := ch.cache.Pin(p.Block); e != api.OK {
			ch.unpin(ch.puts[:i])
			return e
		}
	}
	for _, p := range ch.puts {
		ch.cache.Put(p.Block, p.Data)
	}
	ch.unpin(ch.puts)
	return api.OK
}

func (ch *change) unpin(puts []api.Put) {
	for _, p := range puts {
		ch.cache.Unpin(p.Block)
	}
}

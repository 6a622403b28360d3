package table_test

import (
	"slices"
	"testing"

	"scullery/api"
	"scullery/table"
)

// step is one Put, or one Drop of the entry's Addr.
type step struct {
	isDrop bool
	e      api.Entry
}

// paper is a table as the document words it, with nothing shared with the program: it keeps each step, and reckons from them alone, whenever it is asked.
type paper []step

// stands answers what stands at an address, and whether something does.
func (p paper) stands(addr uint64) (api.Entry, bool) {
	for i := len(p) - 1; i >= 0; i-- {
		if p[i].e.Addr != addr {
			continue
		}
		if p[i].isDrop {
			return api.Entry{}, false
		}
		return p[i].e, true
	}
	return api.Entry{}, false
}

// all answers all that stands, by rising addresses.
func (p paper) all() []api.Entry {
	var addrs []uint64
	for _, s := range p {
		addrs = append(addrs, s.e.Addr)
	}
	slices.Sort(addrs)
	var out []api.Entry
	for _, addr := range slices.Compact(addrs) {
		if e, is := p.stands(addr); is {
			out = append(out, e)
		}
	}
	return out
}

// wantStep does a step, and fails, if it tells something else than the paper.
func wantStep(t *testing.T, tab *table.Table, p paper, s step) {
	t.Helper()
	was, is := p.stands(s.e.Addr)
	if s.isDrop {
		drop(t, tab, s.e.Addr, was, is)
		return
	}
	put(t, tab, s.e, was, is)
}

// P13.1: all scripts of four steps over three addresses, with dirty entries and clean ones; all calls are asked behind each.
func TestShortScripts(t *testing.T) {
	var steps []step
	for _, addr := range []uint64{0, 1, greatest} {
		steps = append(steps, step{isDrop: true, e: api.Entry{Addr: addr}})
		for page, dirty := range []bool{false, true} {
			steps = append(steps, step{e: api.Entry{Addr: addr, Page: page, Dirty: dirty, Seq: 5}})
		}
	}
	var play func(p paper)
	play = func(p paper) {
		tab := table.New()
		for i, s := range p {
			wantStep(t, tab, p[:i], s)
		}
		want(t, tab, p.all()...)
		if len(p) == 4 || t.Failed() {
			return
		}
		for _, s := range steps {
			play(append(slices.Clone(p), s))
		}
	}
	play(nil)
}

// P13.1: long scripts over addresses that lie close or far, so that there are many entries, then few, then many again.
func TestLongScripts(t *testing.T) {
	n := uint64(7)
	roll := func(below uint64) uint64 {
		n = n*6364136223846793005 + 1442695040888963407
		return n >> 33 % below
	}
	for _, apart := range []uint64{1, 2, 1 << 40, 1<<55 + 7} {
		tab := table.New()
		stands := make([]api.Entry, 330)
		is := make([]bool, len(stands))
		for i := range 6000 {
			k := roll(uint64(len(stands)))
			addr := k * apart
			drops := roll(10) < 2+6*uint64(i/1000%2)
			if drops {
				drop(t, tab, addr, stands[k], is[k])
				stands[k], is[k] = api.Entry{}, false
			} else {
				e := api.Entry{Addr: addr, Page: i, Dirty: roll(2) == 1, Seq: int(roll(9)) - 4}
				put(t, tab, e, stands[k], is[k])
				stands[k], is[k] = e, true
			}
			get(t, tab, addr, stands[k], is[k])
			if i%37 == 0 {
				var all []api.Entry
				for k, isThere := range is {
					if isThere {
						all = append(all, stands[k])
					}
				}
				wantSums(t, tab, all)
				wantFrom(t, tab, all, roll(uint64(len(stands)))*apart+roll(3)-1)
			}
		}
	}
}

package yard_test

import (
	"slices"
	"testing"

	"scullery/api"
	"scullery/yard"
)

// What a yard is asked, each by its number.
const opening, nexting, sealing, freeing, retiring, needing, dropping, washing = 0, 1, 2, 3, 4, 5, 6, 7

// step is one thing that a yard is asked.
type step struct {
	which, b, page int
	dirty          bool
}

// told is what a step is told.
type told struct {
	n    int
	code api.Errno
}

// paper is a yard as the document words it, clause by clause, with nothing shared with the program: it keeps each step that went well, and reckons from them alone, whenever it is asked.
type paper struct {
	blocks, pages int
	did           []step
}

// since answers the steps of a block behind the last one of a kind: all of them, if there was none.
func (p *paper) since(b, which int) []step {
	var out []step
	for _, s := range p.did {
		if s.b != b {
			continue
		}
		if s.which == which {
			out = nil
			continue
		}
		out = append(out, s)
	}
	return out
}

// stateOf answers what those steps of one block make of it.
func stateOf(steps []step) int {
	state := api.Free
	for _, s := range steps {
		switch s.which {
		case opening:
			state = api.Open
		case sealing:
			state = api.Sealed
		case freeing:
			state = api.Free
		case retiring:
			state = api.Bad
		}
	}
	return state
}

// state answers what a block is.
func (p *paper) state(b int) int {
	if b < 0 || b >= p.blocks {
		return 0
	}
	return stateOf(p.since(b, -1))
}

// taken answers how many pages are taken: of an open or sealed block, or one that was such and is bad, those that Next told since it was open.
func (p *paper) taken(b int) int {
	steps := p.since(b, -1)
	if p.state(b) == api.Bad {
		at := slices.IndexFunc(steps, func(s step) bool { return s.which == retiring })
		steps = steps[:at]
	}
	if state := stateOf(steps); state != api.Open && state != api.Sealed {
		return 0
	}
	taken := 0
	for _, s := range p.since(b, opening) {
		if s.which == nexting {
			taken++
		}
	}
	return taken
}

// use answers whether a page is needed, and whether it is dirty.
func (p *paper) use(b, page int) (bool, bool) {
	needed, dirty := false, false
	for _, s := range p.since(b, -1) {
		switch {
		case s.page != page:
		case s.which == needing:
			needed, dirty = true, s.dirty
		case s.which == dropping:
			needed, dirty = false, false
		case s.which == washing:
			dirty = false
		}
	}
	return needed, dirty
}

// needed answers the pages of a block that are needed, and how many of them are dirty.
func (p *paper) needed(b int) ([]int, int) {
	var out []int
	many := 0
	for page := range p.pages {
		needed, dirty := p.use(b, page)
		if needed {
			out = append(out, page)
		}
		if dirty {
			many++
		}
	}
	return out, many
}

// code answers what is wrong with a step.
func (p *paper) code(s step) api.Errno {
	state := p.state(s.b)
	if state == 0 {
		return api.ErrInvalid
	}
	right := true
	switch s.which {
	case opening:
		right = state == api.Free
	case nexting, sealing:
		right = state == api.Open
	case freeing:
		needed, _ := p.needed(s.b)
		right = (state == api.Open || state == api.Sealed) && len(needed) == 0
	case retiring:
		right = state != api.Bad
	default:
		return p.codeOfPage(s)
	}
	if !right {
		return api.ErrState
	}
	if s.which == nexting && p.taken(s.b) == p.pages {
		return api.ErrFull
	}
	return api.OK
}

// codeOfPage answers what is wrong with a Need, a Drop or a Wash.
func (p *paper) codeOfPage(s step) api.Errno {
	if s.page < 0 || s.page >= p.pages {
		return api.ErrInvalid
	}
	needed, _ := p.use(s.b, s.page)
	if s.which == needing && (s.page >= p.taken(s.b) || needed) {
		return api.ErrState
	}
	if s.which != needing && !needed {
		return api.ErrNone
	}
	return api.OK
}

// do answers what a yard is to answer, and keeps what went well.
func (p *paper) do(s step) told {
	x := told{code: p.code(s)}
	if x.code != api.OK {
		return x
	}
	if s.which == nexting {
		x.n = p.taken(s.b)
	}
	if s.which < needing {
		s.page = -1
	}
	p.did = append(p.did, s)
	return x
}

// played asks a yard for one step.
func played(y *yard.Yard, s step) told {
	var x told
	var e error
	switch s.which {
	case opening:
		e = y.Open(s.b)
	case nexting:
		x.n, e = y.Next(s.b)
	case sealing:
		e = y.Seal(s.b)
	case freeing:
		e = y.Free(s.b)
	case retiring:
		e = y.Retire(s.b)
	case needing:
		e = y.Need(s.b, s.page, s.dirty)
	case dropping:
		e = y.Drop(s.b, s.page)
	default:
		e = y.Wash(s.b, s.page)
	}
	x.code = api.Code(e)
	return x
}

// wantAsOnPaper fails, if a yard tells of its blocks something else than the document words.
func wantAsOnPaper(t *testing.T, y *yard.Yard, p *paper) bool {
	t.Helper()
	lists := map[int][]int{}
	for b := range p.blocks {
		lists[p.state(b)] = append(lists[p.state(b)], b)
	}
	for state := -1; state <= 5; state++ {
		if got := y.List(state); !slices.Equal(got, lists[state]) {
			t.Errorf("behind %+v: List(%d): %v, not %v", p.did, state, got, lists[state])
			return false
		}
	}
	for b := -1; b <= p.blocks; b++ {
		needed, dirty := p.needed(b)
		if y.State(b) != p.state(b) || !slices.Equal(y.Needed(b), needed) || y.Dirty(b) != dirty {
			t.Errorf("behind %+v: block %d: %d, %v, %d, not %d, %v, %d", p.did, b, y.State(b), y.Needed(b), y.Dirty(b), p.state(b), needed, dirty)
			return false
		}
	}
	return true
}

// wantAsWorded fails, if a yard does in one of these steps something else than the document words, or tells something else of its blocks behind the last so many of them.
func wantAsWorded(t *testing.T, blocks, pages int, steps []step, last int) bool {
	t.Helper()
	y, p := made(t, blocks, pages), &paper{blocks: blocks, pages: pages}
	for i, s := range steps {
		if got, want := played(y, s), p.do(s); got != want {
			t.Errorf("%d, %d: behind %+v: %+v: %+v, not %+v", blocks, pages, p.did, s, got, want)
			return false
		}
		if i >= len(steps)-last && !wantAsOnPaper(t, y, p) {
			return false
		}
	}
	return true
}

// kinds are all steps of one block of so many pages, and of the pages beside it.
func kinds(b, pages int) []step {
	var out []step
	for which := range needing {
		out = append(out, step{which: which, b: b})
	}
	for page := -1; page <= pages; page++ {
		out = append(out, step{which: needing, b: b, page: page, dirty: true}, step{which: needing, b: b, page: page}, step{which: dropping, b: b, page: page}, step{which: washing, b: b, page: page})
	}
	return out
}

// place is all that may be told of a block, now or later.
type place struct {
	state, taken  int
	needed, dirty [4]bool
}

// ways answers, for each place that a block of so many pages may come to, steps that lead there: as few as there may be.
func ways(pages int) map[place][]step {
	out := map[place][]step{{state: api.Free}: nil}
	at := []place{{state: api.Free}}
	for len(at) > 0 {
		from := at[0]
		at = at[1:]
		for _, s := range kinds(0, pages) {
			p := &paper{blocks: 1, pages: pages, did: slices.Clone(out[from])}
			if p.do(s).code != api.OK {
				continue
			}
			to := place{state: p.state(0), taken: p.taken(0)}
			for page := range pages {
				to.needed[page], to.dirty[page] = p.use(0, page)
			}
			if _, ok := out[to]; !ok {
				out[to] = p.did
				at = append(at, to)
			}
		}
	}
	return out
}

// P11.1: wherever a block may come to, each two steps from there do what the document words.
func TestEachPlace(t *testing.T) {
	for pages, want := range map[int]int{1: 13, 2: 40, 3: 121} {
		from := ways(pages)
		if len(from) != want {
			t.Fatalf("%d pages: %d places", pages, len(from))
		}
		for _, steps := range from {
			for _, one := range kinds(0, pages) {
				for _, two := range kinds(0, pages) {
					if !wantAsWorded(t, 1, pages, append(slices.Clone(steps), one, two), 2) {
						return
					}
				}
			}
		}
	}
}

// P11.1: each script of five steps does what the document words.
func TestShortScripts(t *testing.T) {
	all := kinds(0, 1)[:needing]
	for _, page := range []int{0, 1} {
		all = append(all, step{which: needing, page: page, dirty: page == 0}, step{which: dropping, page: page}, step{which: washing, page: page})
	}
	scripts := 1
	for range 5 {
		scripts *= len(all)
	}
	for n := range scripts {
		var steps []step
		for range 5 {
			steps = append(steps, all[n%len(all)])
			n /= len(all)
		}
		if !wantAsWorded(t, 1, 2, steps, 1) {
			return
		}
	}
}

// dice is what wander's numbers come from: the same ones of the same seed.
type dice struct{ state uint64 }

// roll answers a number from 0 to below many.
func (d *dice) roll(many int) int {
	d.state = d.state*6364136223846793005 + 1442695040888963407
	return int((d.state >> 33) % uint64(many))
}

// wander plays a script of so many steps, which a seed tells, in a yard and on paper.
func wander(t *testing.T, seed, many int) bool {
	d := &dice{uint64(seed)*2654435761 + 12345}
	blocks, pages := 1+d.roll(4), 1+d.roll(mostPages)
	if d.roll(20) == 0 {
		blocks = mostBlocks - d.roll(2)
	}
	often := []int{opening, opening, opening, nexting, nexting, nexting, nexting, nexting, nexting, sealing, freeing, freeing, needing, needing, needing, needing, needing, dropping, dropping, dropping, dropping, washing}
	var steps []step
	for range many {
		s := step{which: often[d.roll(len(often))], b: d.roll(blocks), page: d.roll(pages), dirty: d.roll(2) == 1}
		switch d.roll(40) {
		case 0:
			s.b = d.roll(blocks+2) - 1
		case 1:
			s.page = d.roll(pages+2) - 1
		case 2:
			s.which = retiring
		}
		steps = append(steps, s)
	}
	return wantAsWorded(t, blocks, pages, steps, many)
}

// P11.1: long scripts, in yards of many kinds, do what the document words.
func TestLongScripts(t *testing.T) {
	for seed := range 300 {
		if !wander(t, seed, 120) {
			return
		}
	}
}

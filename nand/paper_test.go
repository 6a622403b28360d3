package nand_test

import (
	"bytes"
	"slices"
	"testing"

	"scullery/api"
	"scullery/nand"
)

// paper is a chip as the document words it, clause by clause, with nothing shared with the program: pages by their block and number.
type paper struct {
	face
	ms     []api.Mishap
	pages  map[[2]int][]byte
	failed map[int]bool
}

// onPaper is a new chip, of a geometry, marks and mishaps that may be.
func onPaper(g api.Geometry, marks []int, ms []api.Mishap) *paper {
	p := &paper{face: face{G: g, On: true}, ms: ms, pages: map[[2]int][]byte{}, failed: map[int]bool{}}
	for b := range g.Blocks {
		p.spread(b, 255)
	}
	for _, b := range marks {
		p.Marked[b] = true
	}
	return p
}

// spread makes all bytes of a block one byte.
func (p *paper) spread(block int, by byte) {
	for page := range p.G.Pages {
		p.pages[[2]int{block, page}] = each(p.G.Size+headSize, by)
	}
}

// step is one thing that a chip is asked: one of the four operations, or one of those below.
type step struct{ which, block, page, many, seed int }

// What else a chip is asked: Off, and Boot.
const off, boot = 4, 5

// do answers what a chip is to answer, and does what it is to do.
func (p *paper) do(s step) ([]byte, api.Errno) {
	switch {
	case s.which == off:
		p.On = false
		return nil, api.OK
	case s.which == boot && p.On:
		return nil, api.ErrState
	case s.which == boot:
		p.On = true
		return nil, api.OK
	case !p.On:
		return nil, api.ErrDark
	case s.block < 0 || s.block >= p.G.Blocks:
		return nil, api.ErrInvalid
	case s.which <= programming && (s.page < 0 || s.page >= p.G.Pages):
		return nil, api.ErrInvalid
	case s.which == programming && s.many != p.G.Size+headSize:
		return nil, api.ErrInvalid
	}
	p.Ops++
	var m api.Mishap
	for _, x := range p.ms {
		if x.At == p.Ops {
			m = x
		}
	}
	got, code := p.operate(s, m)
	if m.Kind == api.Dark && (code != api.ErrDark || p.On) {
		panic("a Dark one that is not dark")
	}
	return got, code
}

// operate is an operation under a mishap: one of no Kind, if there is none.
func (p *paper) operate(s step, m api.Mishap) ([]byte, api.Errno) {
	fails, dark := m.Kind == api.Fails, m.Kind == api.Dark
	switch s.which {
	case reading:
		if dark {
			p.On = false
			return nil, api.ErrDark
		}
		return p.pages[[2]int{s.block, s.page}], api.OK
	case programming:
		return nil, p.program(s, m, fails, dark)
	case erasing:
		return nil, p.erase(s, m, fails, dark)
	}
	if dark {
		p.On = false
		return nil, api.ErrDark
	}
	p.Marked[s.block] = true
	return nil, api.OK
}

// order is what misuse answers.
func (p *paper) order(dark bool) api.Errno {
	p.Misuse++
	if dark {
		p.On = false
		return api.ErrDark
	}
	return api.ErrOrder
}

// program is a Program under a mishap.
func (p *paper) program(s step, m api.Mishap, fails, dark bool) api.Errno {
	if p.Marked[s.block] || s.page != p.Next[s.block] {
		return p.order(dark)
	}
	raw, was := some(s.many, s.seed), p.pages[[2]int{s.block, s.page}]
	earlier := p.failed[s.block]
	p.Next[s.block]++
	switch {
	case dark:
		if !earlier {
			n := min(m.Bytes, len(raw))
			p.pages[[2]int{s.block, s.page}] = slices.Concat(raw[:n], was[n:])
		}
		p.On = false
		return api.ErrDark
	case earlier || fails:
		if !earlier {
			n := min(m.Bytes, len(raw)-1)
			p.pages[[2]int{s.block, s.page}] = slices.Concat(raw[:n], was[n:])
		}
		p.failed[s.block] = true
		return api.ErrFail
	}
	p.pages[[2]int{s.block, s.page}] = raw
	p.Programs++
	return api.OK
}

// erase is an Erase under a mishap.
func (p *paper) erase(s step, m api.Mishap, fails, dark bool) api.Errno {
	if p.Marked[s.block] {
		return p.order(dark)
	}
	if p.failed[s.block] && dark {
		p.On = false
		return api.ErrDark
	}
	if p.failed[s.block] || fails {
		p.failed[s.block] = true
		return api.ErrFail
	}
	p.Wear[s.block]++
	if !dark {
		p.spread(s.block, 255)
		p.Next[s.block] = 0
		return api.OK
	}
	p.spread(s.block, m.Fill)
	p.Next[s.block] = 0
	if m.Fill != 255 {
		p.Next[s.block] = p.G.Pages
	}
	p.On = false
	return api.ErrDark
}

// played asks a chip for one step.
func played(c *nand.Chip, s step) ([]byte, error) {
	switch s.which {
	case off:
		c.Off()
		return nil, nil
	case boot:
		return nil, c.Boot()
	case reading:
		return c.Read(s.block, s.page)
	}
	return nil, asked(c, s.which, s.block, s.page, some(s.many, s.seed))
}

// wantAsWorded fails, if a chip does in one of these steps, or in the reading of all its pages behind them, something else than the document words.
func wantAsWorded(t *testing.T, g api.Geometry, marks []int, ms []api.Mishap, steps []step) bool {
	t.Helper()
	c, p := made(t, g, marks, ms...), onPaper(g, marks, ms)
	one := func(s step) bool {
		got, e := played(c, s)
		want, code := p.do(s)
		if api.Code(e) != code || !bytes.Equal(got, want) || faceOf(c) != p.face {
			t.Errorf("%+v, marks %v, %+v, %+v: at %+v: %v, %v, %+v, not %v, %d, %+v", g, marks, ms, steps, s, got, e, faceOf(c), want, code, p.face)
			return false
		}
		return true
	}
	for _, s := range steps {
		if !one(s) {
			return false
		}
	}
	for b := range g.Blocks {
		for page := range g.Pages {
			for _, s := range []step{{which: boot}, {which: reading, block: b, page: page}, {which: boot}, {which: reading, block: b, page: page}} {
				if !one(s) {
					return false
				}
			}
		}
	}
	return true
}

// P8.1 to P8.3: each script of four steps, under none, one or two mishaps, does what the document words.
func TestShortScripts(t *testing.T) {
	g := api.Geometry{Blocks: 2, Pages: 2, Size: leastSize}
	kinds := []step{
		{which: programming, block: 0, page: 0, many: width}, {which: programming, block: 0, page: 1, many: width}, {which: programming, block: 1, page: 0, many: width},
		{which: erasing, block: 0}, {which: marking, block: 0}, {which: reading, block: 0, page: 0}, {which: off}, {which: boot},
	}
	worst := []api.Mishap{{Kind: api.Fails, Bytes: 3, Fill: 0}, {Kind: api.Fails, Bytes: 9999, Fill: 255}, {Kind: api.Dark, Bytes: 3, Fill: 0}, {Kind: api.Dark, Bytes: width, Fill: 255}}
	sets := [][]api.Mishap{nil}
	for at := 1; at <= 4; at++ {
		for _, m := range worst {
			m.At = at
			sets = append(sets, []api.Mishap{m})
			for later := at + 1; later <= 4; later++ {
				for _, x := range worst {
					x.At = later
					sets = append(sets, []api.Mishap{m, x})
				}
			}
		}
	}
	many := len(kinds)
	for n := range many * many * many * many {
		steps := []step{kinds[n%many], kinds[n/many%many], kinds[n/many/many%many], kinds[n/many/many/many]}
		for i := range steps {
			steps[i].seed = i
		}
		for i, ms := range sets {
			// All sets of mishaps take long: of each script some, of each set many scripts.
			if (n+i)%4 == 0 && !wantAsWorded(t, g, nil, ms, steps) {
				return
			}
		}
	}
}

// dice is what wander's numbers come from: the same ones of the same seed.
type dice struct{ state uint64 }

// roll answers a number from 0 to below many.
func (d *dice) roll(many int) int {
	d.state = d.state*6364136223846793005 + 1442695040888963407
	return int((d.state >> 33) % uint64(many))
}

// wander plays a script of so many steps, which a seed tells, on a chip and on paper.
func wander(t *testing.T, seed, many int) bool {
	d := &dice{uint64(seed)*2654435761 + 12345}
	g := api.Geometry{Blocks: 1 + d.roll(4), Pages: 1 + d.roll(mostPages), Size: leastSize + d.roll(mostSize-leastSize+1)}
	var marks []int
	for range d.roll(3) {
		marks = append(marks, d.roll(g.Blocks))
	}
	var ms []api.Mishap
	at := 0
	for range d.roll(25) {
		at += 1 + d.roll(6)
		bytes := []int{0, 1, d.roll(g.Size + headSize), g.Size + headSize - 1, g.Size + headSize, g.Size + headSize + 1, 1 << 16}[d.roll(7)]
		fill := []byte{255, 0, byte(d.roll(256))}[d.roll(3)]
		ms = append(ms, api.Mishap{At: at, Kind: 1 + d.roll(2), Bytes: bytes, Fill: fill})
	}
	// The likely steps come from what the chip stands at, so that much of it goes well.
	next := onPaper(g, marks, ms)
	var steps []step
	for i := range many {
		s := step{which: []int{reading, reading, programming, programming, programming, programming, programming, programming, erasing, erasing, marking, off, boot}[d.roll(13)], block: d.roll(g.Blocks), many: g.Size + headSize, seed: i}
		s.page = next.Next[s.block]
		if !next.On && d.roll(3) > 0 {
			s.which = boot
		}
		if s.which == marking && d.roll(4) > 0 {
			s.which = erasing
		}
		switch d.roll(12) {
		case 0:
			s.page = d.roll(g.Pages+2) - 1
		case 1:
			s.block = d.roll(g.Blocks+2) - 1
		case 2:
			s.many += d.roll(3) - 1
		case 3, 4:
			s.page = d.roll(g.Pages)
		}
		next.do(s)
		steps = append(steps, s)
	}
	return wantAsWorded(t, g, marks, ms, steps)
}

// P8.1 to P8.3: long scripts, of many geometries, under many mishaps, do what the document words.
func TestLongScripts(t *testing.T) {
	for seed := range 1500 {
		if !wander(t, seed, 80) {
			return
		}
	}
}

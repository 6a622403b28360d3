package store_test

import (
	"bytes"
	"slices"
	"strconv"
	"testing"

	"scullery/api"
	"scullery/nand"
	"scullery/store"
)

// paper is a chip, and a store over it, as the document words them, with nothing shared with the program.
type paper struct {
	g      api.Geometry
	ms     []api.Mishap
	ops    int
	isOn   bool
	blocks []paperBlock
	last   int // the block that the last Put of this store went to: -1, if there was none
	needed map[int]put
}

// paperBlock is a block of such a chip: of its pages just those are told that are Valid.
type paperBlock struct {
	valid              map[int]put
	next, wear         int
	isMarked, isFailed bool
}

// paperOf answers a new chip, and a store over it.
func paperOf(g api.Geometry, marks []int, ms []api.Mishap) *paper {
	p := &paper{g: g, ms: ms, isOn: true, blocks: make([]paperBlock, g.Blocks), last: -1, needed: map[int]put{}}
	for b := range p.blocks {
		p.blocks[b].valid = map[int]put{}
	}
	for _, b := range marks {
		p.blocks[b].isMarked = true
	}
	return p
}

// befalls counts an operation, and answers what befalls it.
func (p *paper) befalls() api.Mishap {
	p.ops++
	for _, m := range p.ms {
		if m.At == p.ops {
			p.isOn = m.Kind != api.Dark
			return m
		}
	}
	return api.Mishap{}
}

// erase answers whether an erase went well.
func (p *paper) erase(b int) bool {
	own, m := &p.blocks[b], p.befalls()
	if own.isFailed || m.Kind == api.Fails {
		own.isFailed = true
		return false
	}
	own.valid, own.next = map[int]put{}, 0
	own.wear++
	if m.Kind == api.Dark && m.Fill != 255 {
		own.next = p.g.Pages
	}
	return p.isOn
}

// program answers whether a program of the next page went well.
func (p *paper) program(b int, x put) bool {
	own, m := &p.blocks[b], p.befalls()
	own.next++
	if own.isFailed || m.Kind == api.Fails {
		own.isFailed = true
		return false
	}
	if p.isOn || m.Bytes >= p.g.Size+headSize {
		own.valid[own.next-1] = x
	}
	return p.isOn
}

// needs answers how many pages of a block are needed.
func (p *paper) needs(b int) int {
	many := 0
	for page := range p.needed {
		if page/p.g.Pages == b {
			many++
		}
	}
	return many
}

// isOpen tells whether the next Put goes on with a block.
func (p *paper) isOpen(b int) bool {
	return b >= 0 && b == p.last && !p.blocks[b].isMarked && p.blocks[b].next < p.g.Pages
}

// fresh answers the block that is taken behind the last one: -1, if there is none.
func (p *paper) fresh() int {
	found := -1
	for b, own := range p.blocks {
		if !own.isMarked && p.needs(b) == 0 && (found < 0 || own.wear < p.blocks[found].wear) {
			found = b
		}
	}
	return found
}

// put answers where a page goes to, or what is wrong with it.
func (p *paper) put(x put) (int, api.Errno) {
	for p.isOn {
		well := true
		b := p.last
		if !p.isOpen(b) {
			if b = p.fresh(); b < 0 {
				return 0, api.ErrFull
			}
			if p.blocks[b].next > 0 {
				well = p.erase(b)
			}
		}
		if well {
			p.last = b
			well = p.program(b, x)
		}
		if well {
			page := b*p.g.Pages + p.blocks[b].next - 1
			p.needed[page] = x
			return page, api.OK
		}
		if p.isOn && p.blocks[b].isFailed {
			p.befalls()
			p.blocks[b].isMarked = p.isOn
		}
	}
	return 0, api.ErrDark
}

// drop answers what is wrong with a Drop.
func (p *paper) drop(page int) api.Errno {
	if page < 0 || page >= p.g.Blocks*p.g.Pages {
		return api.ErrInvalid
	}
	if _, is := p.needed[page]; !is {
		return api.ErrNone
	}
	delete(p.needed, page)
	return api.OK
}

// find makes a new store of what is Valid.
func (p *paper) find() {
	p.last, p.needed = -1, map[int]put{}
	for b, own := range p.blocks {
		for k, x := range own.valid {
			p.needed[b*p.g.Pages+k] = x
		}
	}
}

// numbers answers Room, Bad and Sealed.
func (p *paper) numbers() (int, int, []int) {
	room, bad := 0, 0
	var sealed []int
	for b, own := range p.blocks {
		switch {
		case own.isMarked:
			bad++
		case p.isOpen(b):
			room += p.g.Pages - own.next
		case p.needs(b) > 0:
			sealed = append(sealed, b)
		default:
			room += p.g.Pages
		}
	}
	return room, bad, sealed
}

// wantPaper fails, if a store, or its chip, tells something else than the paper.
func wantPaper(t *testing.T, what string, s *store.Store, p *paper) {
	t.Helper()
	wantTold(t, what, s, p.needed)
	room, bad, sealed := p.numbers()
	wantBlocks(t, what, s, room, bad, sealed...)
	f := faceOf(s.Chip())
	if f.On != p.isOn || f.Ops != p.ops || f.Misuse != 0 {
		t.Errorf("%s: On %v, Ops %d, Misuse %d, not %v, %d, 0", what, f.On, f.Ops, f.Misuse, p.isOn, p.ops)
	}
	for b, own := range p.blocks {
		if f.Marked[b] != own.isMarked || f.Next[b] != own.next || f.Wear[b] != own.wear {
			t.Errorf("%s: block %d: Marked %v, Next %d, Wear %d, not %+v", what, b, f.Marked[b], f.Next[b], f.Wear[b], own)
		}
	}
}

// drawn answers numbers from 0 to below another one, the same ones each time.
func drawn(from int) func(below int) int {
	state := uint64(from)*2862933555777941757 + 3037000493
	return func(below int) int {
		state = state*6364136223846793005 + 1442695040888963407
		return int((state >> 33) % uint64(below))
	}
}

// mishaps are so many ones whose numbers rise by at most some number.
func mishaps(draw func(int) int, many, most int) []api.Mishap {
	var ms []api.Mishap
	at := 0
	for range many {
		at += 1 + draw(most)
		bytes := []int{0, 1, draw(300), width, 9999}[draw(5)]
		ms = append(ms, api.Mishap{At: at, Kind: 1 + draw(2), Bytes: bytes, Fill: []byte{0, 255, 9}[draw(3)]})
	}
	return ms
}

// booted answers a new store over a chip that may be dark, or go dark meanwhile, and has the paper find what it finds.
func booted(t *testing.T, c *nand.Chip, p *paper) *store.Store {
	t.Helper()
	for {
		if !c.On() {
			wantCode(t, "Boot", c.Boot(), api.OK)
		}
		s, e := store.New(c)
		if e == nil {
			// How many operations New has is its own.
			p.find()
			p.ops, p.isOn = c.Ops(), true
			return s
		}
		wantCode(t, "New", e, api.ErrDark)
	}
}

// P16.1 to P16.4: long drawn scripts of all calls, under drawn mishaps; all that is told is as on paper behind each, as many Puts as Room says go well at the end, and all is read as it was put.
func TestDrawnScripts(t *testing.T) {
	for from := range 150 {
		what := "script " + strconv.Itoa(from)
		draw := drawn(from)
		g := geometries()[draw(len(geometries()))]
		var marks []int
		for range draw(4) {
			marks = append(marks, draw(g.Blocks))
		}
		ms := mishaps(draw, draw(25), 40)
		c := nand.New(g, marks, ms...)
		p := paperOf(g, marks, ms)
		s := booted(t, c, p)
		for seq := 1; seq <= 250; seq++ {
			drawnStep(t, what, draw, s, p, sized(g.Size, seq))
			wantPaper(t, what, s, p)
			if t.Failed() {
				t.Fatalf("%s: step %d", what, seq)
			}
			if !c.On() || draw(40) == 0 {
				s = booted(t, c, p)
				wantPaper(t, what, s, p)
			}
		}
		for c.Ops() < 1000 { // behind all mishaps
			c.Read(0, 0)
			if !c.On() {
				wantCode(t, what, c.Boot(), api.OK)
			}
		}
		s = booted(t, c, p)
		wantHeld(t, what, s, p.needed)
		for b, own := range p.blocks {
			if own.isFailed && !own.isMarked && p.needs(b) == 0 {
				// One that failed counts in Room, but nothing can be put there.
				wantCode(t, what, c.Mark(b), api.OK)
				p.blocks[b].isMarked = true
			}
		}
		s = booted(t, c, p)
		wantRoom(t, what, s, p.needed)
		wantHeld(t, what, s, p.needed)
	}
}

// drawnStep does one step of a script, and fails, if it is answered otherwise than on paper.
func drawnStep(t *testing.T, what string, draw func(int) int, s *store.Store, p *paper, x put) {
	t.Helper()
	total := p.g.Blocks * p.g.Pages
	all := s.Needed()
	isCrowded := len(all) > draw(total)
	switch n := draw(20); {
	case n == 0:
		x.h.Seq = 0
		wantNoPut(t, what, s, x, api.ErrInvalid)
	case n == 1:
		page := draw(total+10) - 5
		wantCode(t, what+": Drop", s.Drop(page), p.drop(page))
	case n < 5:
		page := draw(total+10) - 5
		drawnGet(t, what, s, p, page)
	case n < 8 && isCrowded:
		first := draw(total)
		for _, page := range all {
			if page >= first && page < first+p.g.Pages {
				wantCode(t, what+": Drop", s.Drop(page), p.drop(page))
			}
		}
	case n < 14 && isCrowded:
		page := all[draw(len(all))]
		wantCode(t, what+": Drop", s.Drop(page), p.drop(page))
	default:
		want, code := p.put(x)
		page, e := s.Put(x.h, x.data)
		wantCode(t, what+": Put", e, code)
		if page != want {
			t.Errorf("%s: Put: %d, not %d", what, page, want)
		}
	}
}

// drawnGet does one Get, and fails, if it is answered otherwise than on paper.
func drawnGet(t *testing.T, what string, s *store.Store, p *paper, page int) {
	t.Helper()
	x, is := p.needed[page]
	switch {
	case page < 0 || page >= p.g.Blocks*p.g.Pages:
		wantNoGet(t, what, s, page, api.ErrInvalid)
	case !is:
		wantNoGet(t, what, s, page, api.ErrNone)
	case p.befalls().Kind == api.Dark:
		wantNoGet(t, what, s, page, api.ErrDark)
	default:
		wantGet(t, what, s, page, x)
	}
}

// P16.4: of a script that fills the chip and drops again, with the power going at each of its operations, within each kind of operation, at how many bytes whatever, behind a block that fails, too, and again within New: all that was needed is there as it was, and nothing that was never put.
func TestCrashAtEach(t *testing.T) {
	const steps = 100
	for at := 1; at <= 175; at++ {
		for _, ms := range [][]api.Mishap{
			{{At: at, Kind: api.Dark, Fill: 255}},
			{{At: at, Kind: api.Dark, Bytes: 1, Fill: 0}},
			{{At: at, Kind: api.Dark, Bytes: size + headSize/2, Fill: 1}, {At: at + 1, Kind: api.Dark}, {At: at + 9, Kind: api.Dark}},
			{{At: at, Kind: api.Dark, Bytes: width - 1, Fill: 254}},
			{{At: at, Kind: api.Dark, Bytes: width, Fill: 9}, {At: at + 70, Kind: api.Dark, Bytes: width}},
			{{At: at, Kind: api.Fails, Bytes: 77}, {At: at + 1, Kind: api.Dark}},
			{{At: at, Kind: api.Fails, Bytes: width}, {At: at + 2, Kind: api.Dark, Bytes: 50, Fill: 7}, {At: at + 3, Kind: api.Dark}},
			{{At: at, Kind: api.Fails}, {At: at + 2, Kind: api.Fails}, {At: at + 3, Kind: api.Dark}, {At: at + 4, Kind: api.Dark}},
		} {
			l := &lasting{c: chip(t, nil, ms...), sure: map[int]put{}, ever: map[int]put{}}
			l.find(t)
			for seq := 1; seq <= steps; seq++ {
				l.put(t, one(seq))
				if len(l.sure) > 50 || seq%9 == 0 {
					l.drop(t, seq%blocks)
				}
				if t.Failed() {
					t.Fatalf("mishaps %v: step %d", ms, seq)
				}
			}
			l.crash(t)
			wantHeld(t, "at the end", l.s, l.sure)
		}
	}
}

// P16.4: crashes many times over, by mishaps and by Off, the power going again behind Boot and within New; some of what is found, though it was dropped, is needed from then on.
func TestCrashManyTimes(t *testing.T) {
	for from := range 60 {
		draw := drawn(1000 + from)
		l := &lasting{c: chip(t, nil, mishaps(draw, 24, 90)...), sure: map[int]put{}, ever: map[int]put{}}
		l.find(t)
		for seq := 1; seq <= 500; seq++ {
			switch draw(12) {
			case 0:
				l.crash(t)
			case 1, 2:
				l.drop(t, draw(blocks))
			default:
				l.put(t, one(seq))
			}
			if t.Failed() {
				t.Fatalf("script %d: step %d", from, seq)
			}
		}
		for l.c.Ops() < 2200 && len(l.sure) > 0 { // behind all mishaps
			l.crash(t)
		}
		wantHeld(t, "at the end", l.s, l.sure)
	}
}

// lasting is a store on a chip that crashes: sure is what was needed at last, ever is each page that was handed in, by its Seq.
type lasting struct {
	c    *nand.Chip
	s    *store.Store
	sure map[int]put
	ever map[int]put
}

// put puts a page; behind a crash it is made anew.
func (l *lasting) put(t *testing.T, x put) {
	t.Helper()
	l.ever[x.h.Seq] = x
	page, e := l.s.Put(x.h, x.data)
	if _, is := l.sure[page]; e == nil && is {
		t.Errorf("Put: page %d is needed", page)
	}
	switch api.Code(e) {
	case api.OK:
		l.sure[page] = x
	case api.ErrFull:
		if l.s.Room() > 0 {
			t.Errorf("Put: %v, and Room %d", e, l.s.Room())
		}
		l.drop(t, x.h.Seq%blocks)
	case api.ErrDark:
		l.crash(t)
	default:
		t.Errorf("Put: %v", e)
	}
}

// drop drops what is needed of a block, and of the one behind it all but one.
func (l *lasting) drop(t *testing.T, b int) {
	t.Helper()
	which := l.s.Block(b)
	if next := l.s.Block(b + 1); len(next) > 0 {
		which = append(which, next[1:]...)
	}
	dropped(t, l.s, l.sure, which...)
}

// crash takes the power, more than once, and makes the store anew.
func (l *lasting) crash(t *testing.T) {
	t.Helper()
	l.c.Off()
	wantCode(t, "Boot", l.c.Boot(), api.OK)
	l.c.Off()
	l.find(t)
}

// find makes the store anew, and fails, if what it was sure of is not there, as it was; what is there else must have been put once.
func (l *lasting) find(t *testing.T) {
	t.Helper()
	for l.s = nil; l.s == nil || !l.isThere(t); {
		if !l.c.On() {
			wantCode(t, "Boot", l.c.Boot(), api.OK)
		}
		s, e := store.New(l.c)
		if e != nil {
			wantCode(t, "New", e, api.ErrDark)
		}
		l.s = s
	}
	for i, page := range l.s.Needed() {
		if _, is := l.sure[page]; is {
			continue
		}
		h, _ := l.s.Head(page)
		if l.ever[h.Seq].h != h {
			t.Errorf("behind a crash: page %d was never put: %v", page, h)
			continue
		}
		if i%3 == 0 {
			l.sure[page] = l.ever[h.Seq]
			continue
		}
		wantCode(t, "Drop", l.s.Drop(page), api.OK)
	}
	if l.c.Misuse() != 0 {
		t.Errorf("Misuse: %d", l.c.Misuse())
	}
}

// isThere tells whether all could be read that is sure: not, if the power went meanwhile. It fails, if some of it is not there, as it was.
func (l *lasting) isThere(t *testing.T) bool {
	t.Helper()
	all := l.s.Needed()
	for page, x := range l.sure {
		if h, is := l.s.Head(page); !is || h != x.h || !slices.Contains(all, page) {
			t.Errorf("behind a crash: page %d: %v, %v, not %v", page, h, is, x.h)
		}
	}
	for _, page := range all {
		x, is := l.sure[page]
		if !is {
			continue
		}
		data, h, e := l.s.Get(page)
		if api.Code(e) == api.ErrDark {
			return false
		}
		if e != nil || h != x.h || !bytes.Equal(data, x.data) {
			t.Errorf("behind a crash: Get(%d): %x, %v, %v, not %x, %v", page, data, h, e, x.data, x.h)
		}
	}
	return true
}

package store_test

import (
	"bytes"
	"math"
	"reflect"
	"slices"
	"strconv"
	"testing"

	"scullery/api"
	"scullery/head"
	"scullery/nand"
	"scullery/store"
)

// The document's limits, in its own numbers.
const headSize, greatestSeq, greatestGen = 28, 1<<40 - 1, 1<<24 - 1

// The geometry of most chips here.
const blocks, pages, size, width = 16, 4, 128, 128 + headSize

// small is that geometry.
func small() api.Geometry { return api.Geometry{Blocks: blocks, Pages: pages, Size: size} }

// geometries are the ones at the edges, and others between them.
func geometries() []api.Geometry {
	return []api.Geometry{
		small(), {Blocks: 32, Pages: 8, Size: 256}, {Blocks: 16, Pages: 8, Size: 128}, {Blocks: 32, Pages: 4, Size: 256}, {Blocks: 21, Pages: 5, Size: 200},
	}
}

// none is the page's number of no page: the first and the last ones beyond, and those that are furthest.
func none() []int {
	return []int{-1, blocks * pages, -2, blocks*pages + 1, math.MinInt, math.MaxInt, math.MinInt32, math.MaxInt32}
}

// some are so many bytes that a number tells.
func some(many, seed int) []byte {
	out := make([]byte, many)
	for i := range out {
		out[i] = byte((i*i + i*(2*seed+1) + 11*seed + 5) % 251)
	}
	return out
}

// put is a page as it is handed in, and as it is to be read.
type put struct {
	h    api.Head
	data []byte
}

// one is a page of small's size that a number from 1 on tells; the kinds take turns.
func one(seq int) put { return sized(size, seq) }

// sized is such a page of another size.
func sized(many, seq int) put {
	h := api.Head{Kind: 1 + seq%4, Seq: seq, Gen: seq % 7}
	if h.Kind <= 2 {
		h.Addr = uint64(seq) * 0x9E3779B97F4A7C15
	}
	return put{h: h, data: some(many, seq)}
}

// raw are the bytes of a page as the chip is to have them.
func raw(t *testing.T, x put) []byte {
	t.Helper()
	b, e := head.Lay(x.data, x.h)
	if e != nil {
		t.Fatalf("Lay: %v", e)
	}
	return b
}

// chip answers a chip of small's geometry, and fails, if there is none.
func chip(t *testing.T, marks []int, ms ...api.Mishap) *nand.Chip {
	t.Helper()
	c := nand.New(small(), marks, ms...)
	if c == nil {
		t.Fatalf("nand.New(%v, %v): none", marks, ms)
	}
	return c
}

// over answers a store over a chip, and fails, if there is none.
func over(t *testing.T, c *nand.Chip) *store.Store {
	t.Helper()
	s, e := store.New(c)
	if e != nil || s == nil {
		t.Fatalf("New: %v, %v", s, e)
	}
	return s
}

// wantCode fails, if an error is none of that code: an *api.Wrong, not wrapped, or nil.
func wantCode(t *testing.T, what string, e error, want api.Errno) {
	t.Helper()
	if want == api.OK {
		if e != nil {
			t.Errorf("%s: %v (%T)", what, e, e)
		}
		return
	}
	if w, ok := e.(*api.Wrong); !ok || w == nil || w.Code != want {
		t.Errorf("%s: %v (%T), not %d", what, e, e, want)
	}
}

// wantPut fails, if a Put does not go to this page.
func wantPut(t *testing.T, what string, s *store.Store, x put, want int) {
	t.Helper()
	if page, e := s.Put(x.h, x.data); e != nil || page != want {
		t.Errorf("%s: Put: %d, %v, not %d", what, page, e, want)
	}
}

// wantNoPut fails, if a Put does not answer this error, and 0 beside it.
func wantNoPut(t *testing.T, what string, s *store.Store, x put, want api.Errno) {
	t.Helper()
	page, e := s.Put(x.h, x.data)
	wantCode(t, what+": Put", e, want)
	if page != 0 {
		t.Errorf("%s: a page beside an error: %d", what, page)
	}
}

// wantGet fails, if a page is not read as it was put.
func wantGet(t *testing.T, what string, s *store.Store, page int, want put) {
	t.Helper()
	data, h, e := s.Get(page)
	if e != nil || h != want.h || !bytes.Equal(data, want.data) {
		t.Errorf("%s: Get(%d): %x, %v, %v, not %x, %v", what, page, data, h, e, want.data, want.h)
	}
}

// wantNoGet fails, if a Get does not answer this error, and nothing beside it.
func wantNoGet(t *testing.T, what string, s *store.Store, page int, want api.Errno) {
	t.Helper()
	data, h, e := s.Get(page)
	wantCode(t, what+": Get("+strconv.Itoa(page)+")", e, want)
	if len(data) != 0 || h != (api.Head{}) {
		t.Errorf("%s: Get(%d): %x, %v beside an error", what, page, data, h)
	}
}

// wantTold fails, if a store tells, without an operation of its chip, something else than that just these pages are needed.
func wantTold(t *testing.T, what string, s *store.Store, want map[int]put) {
	t.Helper()
	g := s.Chip().Geometry()
	before := s.Chip().Ops()
	var all []int
	for b := range g.Blocks {
		var own []int
		for page := b * g.Pages; page < (b+1)*g.Pages; page++ {
			x, is := want[page]
			if h, ok := s.Head(page); h != x.h || ok != is {
				t.Errorf("%s: Head(%d): %v, %v, not %v, %v", what, page, h, ok, x.h, is)
			}
			if is {
				own = append(own, page)
			}
		}
		if got := s.Block(b); !slices.Equal(got, own) {
			t.Errorf("%s: Block(%d): %v, not %v", what, b, got, own)
		}
		all = append(all, own...)
	}
	if len(all) != len(want) {
		t.Fatalf("%s: the test wants pages that there are not: %v", what, want)
	}
	if got := s.Needed(); !slices.Equal(got, all) {
		t.Errorf("%s: Needed: %v, not %v", what, got, all)
	}
	if s.Chip().Ops() != before {
		t.Errorf("%s: %d operations of the chip", what, s.Chip().Ops()-before)
	}
}

// wantHeld fails, if not just these pages are needed, and read as they were put; no mishap is left on the chip.
func wantHeld(t *testing.T, what string, s *store.Store, want map[int]put) {
	t.Helper()
	wantTold(t, what, s, want)
	g := s.Chip().Geometry()
	for page := range g.Blocks * g.Pages {
		if x, is := want[page]; is {
			wantGet(t, what, s, page, x)
		} else {
			wantNoGet(t, what, s, page, api.ErrNone)
		}
	}
	wantTold(t, what, s, want)
}

// wantBlocks fails, if a store's Room and Bad are not these, and its Sealed not these blocks.
func wantBlocks(t *testing.T, what string, s *store.Store, room, bad int, sealed ...int) {
	t.Helper()
	if got := s.Room(); got != room {
		t.Errorf("%s: Room: %d, not %d", what, got, room)
	}
	if got := s.Bad(); got != bad {
		t.Errorf("%s: Bad: %d, not %d", what, got, bad)
	}
	if got := s.Sealed(); !slices.Equal(got, sealed) {
		t.Errorf("%s: Sealed: %v, not %v", what, got, sealed)
	}
}

// wantRoom fails, if not just as many Puts go well as Room says, and the one behind them is ErrFull; the pages that were put are needed behind it.
func wantRoom(t *testing.T, what string, s *store.Store, needed map[int]put) {
	t.Helper()
	room := s.Room()
	for i := range room {
		x := sized(s.Chip().Geometry().Size, 500+i)
		page, e := s.Put(x.h, x.data)
		if _, is := needed[page]; e != nil || is {
			t.Fatalf("%s: the %d-th of %d Puts: %d, %v", what, i+1, room, page, e)
		}
		needed[page] = x
		if s.Room() != room-i-1 {
			t.Errorf("%s: Room behind %d of %d Puts: %d", what, i+1, room, s.Room())
		}
	}
	before := s.Chip().Ops()
	wantNoPut(t, what+": beyond Room", s, sized(s.Chip().Geometry().Size, 499), api.ErrFull)
	if s.Chip().Ops() != before || s.Room() != 0 {
		t.Errorf("%s: beyond Room: %d operations, Room %d", what, s.Chip().Ops()-before, s.Room())
	}
}

// filled puts so many pages into a new store over a chip of small's geometry without marks, and answers it, and what is needed.
func filled(t *testing.T, c *nand.Chip, many int) (*store.Store, map[int]put) {
	t.Helper()
	s, needed := over(t, c), map[int]put{}
	for page := range many {
		wantPut(t, "filled", s, one(page+1), page)
		needed[page] = one(page + 1)
	}
	return s, needed
}

// dropped drops pages, and fails, if that does not go well.
func dropped(t *testing.T, s *store.Store, needed map[int]put, which ...int) {
	t.Helper()
	for _, page := range which {
		wantCode(t, "Drop("+strconv.Itoa(page)+")", s.Drop(page), api.OK)
		delete(needed, page)
	}
}

// face is all that a chip tells without an operation.
type face struct {
	On                    bool
	Ops, Misuse, Programs int
	Marked                [32]bool
	Next, Wear            [32]int
}

// faceOf answers what a chip tells.
func faceOf(c *nand.Chip) face {
	f := face{On: c.On(), Ops: c.Ops(), Misuse: c.Misuse(), Programs: c.Programs()}
	for b := range f.Next {
		f.Marked[b], f.Next[b], f.Wear[b] = c.Marked(b), c.Next(b), c.Wear(b)
	}
	return f
}

// The document's example: New, Put, Get.
func TestExample(t *testing.T) {
	s := over(t, chip(t, nil))
	page, e := s.Put(one(1).h, one(1).data)
	wantCode(t, "Put", e, api.OK)
	wantGet(t, "the example", s, page, one(1))
	wantHeld(t, "the example", s, map[int]put{page: one(1)})
}

// P16.1: New of no chip, of one whose geometry may not be (with power, or without), of a dark one.
func TestNewOfNone(t *testing.T) {
	wantNew := func(what string, c *nand.Chip, want api.Errno) {
		t.Helper()
		s, e := store.New(c)
		wantCode(t, what, e, want)
		if s != nil {
			t.Errorf("%s: a store beside an error", what)
		}
		if c.Ops() != 0 {
			t.Errorf("%s: %d operations", what, c.Ops())
		}
	}
	wantNew("no chip", nil, api.ErrNil)
	for _, g := range []api.Geometry{
		{Blocks: 15, Pages: 4, Size: 128}, {Blocks: 16, Pages: 3, Size: 128}, {Blocks: 1, Pages: 1, Size: 128}, {Blocks: 32, Pages: 3, Size: 256}, {Blocks: 15, Pages: 8, Size: 256},
	} {
		c := nand.New(g, nil)
		wantNew("a geometry that may not be", c, api.ErrInvalid)
		c.Off()
		wantNew("a geometry that may not be, in the dark", c, api.ErrInvalid)
	}
	for _, g := range geometries() {
		c := nand.New(g, nil)
		c.Off()
		wantNew("a dark one", c, api.ErrDark)
		wantCode(t, "Boot", c.Boot(), api.OK)
		over(t, c)
	}
}

// P16.1: New of a new chip, with marks or without.
func TestNewOfNew(t *testing.T) {
	for _, g := range geometries() {
		for _, marks := range [][]int{nil, {0}, {g.Blocks - 1}, {3, 9, 3}} {
			what := "marks " + strconv.Itoa(len(marks))
			c := nand.New(g, marks)
			s := over(t, c)
			if s.Chip() != c {
				t.Errorf("%s: Chip: another one", what)
			}
			marked := map[int]bool{}
			for _, b := range marks {
				marked[b] = true
			}
			wantHeld(t, what, s, nil)
			wantBlocks(t, what, s, (g.Blocks-len(marked))*g.Pages, len(marked))
			wantRoom(t, what, s, map[int]put{})
		}
	}
}

// P16.1: New takes just those pages as needed that are Valid, wherever they stand: also in marked blocks, in one whose power went, and behind torn ones.
func TestNewOfUsed(t *testing.T) {
	c := chip(t, []int{15}, api.Mishap{At: 10, Kind: api.Dark, Bytes: 140}, api.Mishap{At: 12, Kind: api.Dark, Bytes: width}, api.Mishap{At: 13, Kind: api.Fails, Bytes: width}, api.Mishap{At: 22, Kind: api.Dark, Fill: 0})
	program := func(block, page int, b []byte, want api.Errno) {
		t.Helper()
		wantCode(t, "Program", c.Program(block, page, b), want)
		if want == api.ErrDark {
			wantCode(t, "Boot", c.Boot(), api.OK)
		}
	}
	turned := raw(t, one(3))
	turned[7] ^= 1
	program(0, 0, raw(t, one(1)), api.OK) // needed, in a block that is not full
	program(0, 1, bytes.Repeat([]byte{255}, width), api.OK)
	program(0, 2, raw(t, one(2)), api.OK) // needed, behind one that is erased
	program(3, 0, turned, api.OK)
	program(3, 1, bytes.Repeat([]byte{0}, width), api.OK) // a block of nothing that is needed
	program(4, 0, raw(t, one(4)), api.OK)                 // needed, in a block that is full
	program(4, 1, raw(t, one(4)), api.OK)                 // likewise, though it is the same
	program(4, 2, turned, api.OK)
	program(4, 3, raw(t, one(5)), api.OK)
	program(6, 0, raw(t, one(6)), api.ErrDark) // the power went within it
	program(6, 1, raw(t, one(7)), api.OK)      // needed
	program(6, 2, raw(t, one(8)), api.ErrDark) // the power went at its end: needed
	program(9, 0, raw(t, one(9)), api.ErrFail) // torn, and the block is failed, but not marked
	program(11, 0, raw(t, one(10)), api.OK)
	program(11, 1, raw(t, one(11)), api.OK)
	wantCode(t, "Mark", c.Mark(11), api.OK) // two that are needed in a marked block
	program(12, 0, raw(t, one(12)), api.OK)
	program(12, 1, raw(t, one(13)), api.OK)
	wantCode(t, "Erase", c.Erase(12), api.OK) // nothing stands there any more
	program(13, 0, raw(t, one(14)), api.OK)
	wantCode(t, "Mark", c.Mark(2), api.OK)
	wantCode(t, "Erase", c.Erase(13), api.ErrDark) // nor there, though it can't be programmed
	wantCode(t, "Boot", c.Boot(), api.OK)

	needed := map[int]put{0: one(1), 2: one(2), 16: one(4), 17: one(4), 19: one(5), 25: one(7), 26: one(8), 44: one(10), 45: one(11)}
	s := over(t, c)
	wantHeld(t, "a used one", s, needed)
	wantBlocks(t, "a used one", s, 10*pages, 3, 0, 4, 6)
	// A block that isn't full, and that another store put to, is none that this one put to.
	wantPut(t, "a used one", s, one(20), 1*pages)
	needed[1*pages] = one(20)
	wantBlocks(t, "a used one", s, 10*pages-1, 3, 0, 4, 6)
	dropped(t, s, needed, 44, 0, 2, 16)
	wantBlocks(t, "a used one", s, 11*pages-1, 3, 4, 6)
	wantHeld(t, "a used one", s, needed)
	wantHeld(t, "another one over it", over(t, c), with(needed, map[int]put{0: one(1), 2: one(2), 16: one(4), 44: one(10)}))
	if c.Misuse() != 0 {
		t.Errorf("Misuse: %d", c.Misuse())
	}
}

// with answers what both have.
func with(a, b map[int]put) map[int]put {
	out := map[int]put{}
	for _, from := range []map[int]put{a, b} {
		for page, x := range from {
			out[page] = x
		}
	}
	return out
}

// P16.1: the power goes while New reads: ErrDark, no store; behind Boot it is there. A mishap that Fails does nothing to it.
func TestNewGoesDark(t *testing.T) {
	for at := 11; at <= 21; at++ {
		for _, kind := range []int{api.Dark, api.Fails} {
			c := chip(t, nil, api.Mishap{At: at, Kind: kind})
			_, needed := filled(t, c, 10)
			s, e := store.New(c)
			if kind == api.Dark && at < 21 {
				wantCode(t, "New that goes dark", e, api.ErrDark)
				if s != nil || c.On() {
					t.Errorf("a mishap at %d: a store beside an error, or power", at)
				}
				wantCode(t, "Boot", c.Boot(), api.OK)
				s, e = store.New(c)
			}
			wantCode(t, "New", e, api.OK)
			wantTold(t, "New", s, needed)
			wantBlocks(t, "New", s, 13*pages, 0, 0, 1, 2)
		}
	}
}

// P16.1: Get, Head, Drop of the first and the last page, of those that are needed and those that are not, and of none.
func TestEdges(t *testing.T) {
	s, needed := filled(t, chip(t, nil), blocks*pages)
	const last = blocks*pages - 1
	for _, page := range none() {
		wantNoGet(t, "no page", s, page, api.ErrInvalid)
		wantCode(t, "Drop of no page", s.Drop(page), api.ErrInvalid)
		if h, is := s.Head(page); is || h != (api.Head{}) {
			t.Errorf("Head(%d): %v, %v", page, h, is)
		}
	}
	wantHeld(t, "full", s, needed)
	for _, page := range []int{0, last} {
		wantGet(t, "the ends", s, page, needed[page])
		dropped(t, s, needed, page)
		wantNoGet(t, "dropped", s, page, api.ErrNone)
		wantCode(t, "Drop of what was dropped", s.Drop(page), api.ErrNone)
		wantHeld(t, "dropped", s, needed)
	}
	for _, b := range []int{-1, blocks, -2, blocks + 1, math.MinInt, math.MaxInt} {
		if got := s.Block(b); len(got) != 0 {
			t.Errorf("Block(%d): %v", b, got)
		}
	}
	if got := s.Block(0); !slices.Equal(got, []int{1, 2, 3}) {
		t.Errorf("Block(0): %v", got)
	}
	if got := s.Block(blocks - 1); !slices.Equal(got, []int{60, 61, 62}) {
		t.Errorf("Block(%d): %v", blocks-1, got)
	}
}

// P16.1: in the dark Get answers ErrDark, but ErrInvalid and ErrNone ahead of it; all that needs no operation is told, and done, as with power.
func TestDark(t *testing.T) {
	c := chip(t, []int{9}, api.Mishap{At: 12, Kind: api.Dark}, api.Mishap{At: 13, Kind: api.Fails})
	s, needed := filled(t, c, 10)
	wantCode(t, "Mark", c.Mark(15), api.OK)
	wantNoGet(t, "the power goes", s, 3, api.ErrDark)
	if c.On() || c.Ops() != 12 {
		t.Errorf("On %v, %d operations", c.On(), c.Ops())
	}
	for _, page := range none() {
		wantNoGet(t, "in the dark", s, page, api.ErrInvalid)
		wantCode(t, "in the dark", s.Drop(page), api.ErrInvalid)
	}
	wantNoGet(t, "in the dark", s, 10, api.ErrNone)
	wantCode(t, "in the dark", s.Drop(10), api.ErrNone)
	for page := range 10 {
		wantNoGet(t, "in the dark", s, page, api.ErrDark)
	}
	wantTold(t, "in the dark", s, needed)
	wantBlocks(t, "in the dark", s, 12*pages+2, 1, 0, 1)
	dropped(t, s, needed, 0, 1, 2, 3, 9)
	wantTold(t, "in the dark", s, needed)
	wantBlocks(t, "in the dark", s, 13*pages+2, 1, 1)
	wantNoPut(t, "in the dark", s, one(50), api.ErrDark)
	wantBlocks(t, "in the dark", s, 13*pages+2, 1, 1)
	if c.Ops() != 12 || s.Chip() != c {
		t.Errorf("%d operations", c.Ops())
	}
	wantCode(t, "Boot", c.Boot(), api.OK)
	s = over(t, c) // its first read is the one that Fails, which does nothing
	for page := range 10 {
		needed[page] = one(page + 1)
	}
	wantHeld(t, "behind it", s, needed)
	wantBlocks(t, "behind it", s, 11*pages, 2, 0, 1, 2)
}

// P16.1: Sealed: not the marked ones, not those of which nothing is needed, not the one that the next Put goes to (also one of which nothing is needed); but the last one, too, once it is full.
func TestSealed(t *testing.T) {
	s, needed := filled(t, chip(t, nil), 5)
	wantBlocks(t, "one is begun", s, 59, 0, 0)
	dropped(t, s, needed, 4)
	wantBlocks(t, "nothing of it is needed", s, 59, 0, 0)
	wantPut(t, "on", s, one(6), 5)
	wantPut(t, "on", s, one(7), 6)
	wantBlocks(t, "it has a page left", s, 57, 0, 0)
	wantPut(t, "on", s, one(8), 7)
	wantBlocks(t, "it is full", s, 56, 0, 0, 1)
	dropped(t, s, needed, 0, 1, 2)
	wantBlocks(t, "one page of it is needed", s, 56, 0, 0, 1)
	dropped(t, s, needed, 3)
	wantBlocks(t, "none is needed", s, 60, 0, 1)
	dropped(t, s, needed)
	for _, page := range []int{7, 5, 6} {
		wantCode(t, "Drop", s.Drop(page), api.OK)
	}
	wantBlocks(t, "of the last one none is needed", s, 64, 0)
	wantHeld(t, "at the end", s, nil)
	wantPut(t, "at the end", s, one(9), 0) // block 0 is worn as the others are, and the first
	wantBlocks(t, "at the end", s, 63, 0)
}

// P16.1: all blocks but the one that is put to are sealed; the marked ones never are, though pages of them are needed.
func TestSealedOfMarked(t *testing.T) {
	c := chip(t, []int{2})
	for k := range pages {
		wantCode(t, "Program", c.Program(5, k, raw(t, one(40+k))), api.OK)
	}
	wantCode(t, "Mark", c.Mark(5), api.OK)
	s := over(t, c)
	needed := map[int]put{20: one(40), 21: one(41), 22: one(42), 23: one(43)}
	wantBlocks(t, "marked", s, 14*pages, 2)
	wantHeld(t, "marked", s, needed)
	wantRoom(t, "marked", s, needed)
	wantBlocks(t, "full", s, 0, 2, 0, 1, 3, 4, 6, 7, 8, 9, 10, 11, 12, 13, 14, 15)
	wantHeld(t, "full", s, needed)
	dropped(t, s, needed, 20, 21, 22, 23)
	wantBlocks(t, "dropped", s, 0, 2, 0, 1, 3, 4, 6, 7, 8, 9, 10, 11, 12, 13, 14, 15)
	wantNoPut(t, "a marked one is free never", s, one(1), api.ErrFull)
	wantHeld(t, "dropped", s, needed)
	if c.Misuse() != 0 {
		t.Errorf("Misuse: %d", c.Misuse())
	}
}

// P16.2: what Put refuses as ErrInvalid: data and heads at each edge, also in the dark, and also if there is no room.
func TestPutOfInvalid(t *testing.T) {
	bad := []put{
		{one(1).h, nil}, {one(1).h, []byte{}}, {one(1).h, some(1, 1)}, {one(1).h, some(size-1, 1)}, {one(1).h, some(size+1, 1)}, {one(1).h, some(256, 1)}, {one(1).h, some(width, 1)}, {one(1).h, some(5000, 1)}, {data: some(size, 1)},
	}
	for _, h := range []api.Head{
		{Kind: 0, Seq: 1}, {Kind: 5, Seq: 1}, {Kind: -1, Seq: 1}, {Kind: 1, Seq: 0}, {Kind: 1, Seq: -1}, {Kind: 1, Seq: greatestSeq + 1}, {Kind: 1, Seq: 1, Gen: -1}, {Kind: 1, Seq: 1, Gen: greatestGen + 1}, {Kind: 3, Seq: 1, Addr: 1}, {Kind: 4, Seq: 1, Addr: 1 << 63}, {Kind: math.MaxInt, Seq: math.MinInt, Gen: math.MaxInt},
	} {
		bad = append(bad, put{h, some(size, 2)})
	}
	for _, many := range []int{0, 1, 63, 64} {
		c := chip(t, nil)
		s, needed := filled(t, c, many)
		refused := func(what string) {
			t.Helper()
			before := faceOf(c)
			for _, x := range bad {
				wantNoPut(t, what, s, x, api.ErrInvalid)
			}
			if faceOf(c) != before || s.Room() != blocks*pages-many {
				t.Errorf("%s: it was put all the same", what)
			}
			wantTold(t, what, s, needed)
		}
		refused("with power")
		c.Off()
		refused("in the dark")
	}
	wide := over(t, nand.New(api.Geometry{Blocks: 16, Pages: 4, Size: 200}, nil))
	for _, many := range []int{128, 199, 201, 256} {
		wantNoPut(t, "of another size", wide, sized(many, 1), api.ErrInvalid)
	}
	wantPut(t, "of its size", wide, sized(200, 1), 0)
}

// P16.2: heads at the edges of those that may be are put, and read again.
func TestPutOfEdges(t *testing.T) {
	s, needed := over(t, chip(t, nil)), map[int]put{}
	for i, h := range []api.Head{
		{Kind: 1, Seq: 1}, {Kind: 4, Seq: greatestSeq, Gen: greatestGen}, {Kind: 2, Addr: math.MaxUint64, Seq: greatestSeq, Gen: greatestGen}, {Kind: 3, Seq: 1}, {Kind: 1, Seq: 1},
	} {
		x := put{h, bytes.Repeat([]byte{255}, size)}
		wantPut(t, "an edge", s, x, i)
		needed[i] = x
	}
	wantHeld(t, "edges", s, needed)
	wantHeld(t, "edges, again", over(t, s.Chip()), needed)
}

// P16.2: ErrDark comes ahead of ErrFull, and neither is an operation.
func TestPutOfFull(t *testing.T) {
	c := chip(t, nil)
	s, needed := filled(t, c, blocks*pages)
	before := faceOf(c)
	wantNoPut(t, "full", s, one(99), api.ErrFull)
	if faceOf(c) != before {
		t.Errorf("full: %+v", faceOf(c))
	}
	c.Off()
	wantNoPut(t, "full, in the dark", s, one(99), api.ErrDark)
	wantTold(t, "full", s, needed)
	wantCode(t, "Boot", c.Boot(), api.OK)
	wantHeld(t, "full", over(t, c), needed)
}

// P16.2: on a chip on which nothing befalls: pages go to one block till it is full, then to the first one; each is one operation.
func TestPutInOrder(t *testing.T) {
	for _, g := range geometries() {
		c := nand.New(g, []int{1, g.Blocks - 2})
		s, needed := over(t, c), map[int]put{}
		seq := 0
		for b := range g.Blocks {
			for k := range g.Pages {
				if b == 1 || b == g.Blocks-2 {
					continue
				}
				seq++
				x := sized(g.Size, seq)
				wantPut(t, "in order", s, x, b*g.Pages+k)
				needed[b*g.Pages+k] = x
				if c.Ops() != seq || c.Programs() != seq {
					t.Errorf("behind %d Puts: %d operations, %d programs", seq, c.Ops(), c.Programs())
				}
			}
		}
		wantHeld(t, "in order", s, needed)
		wantHeld(t, "in order, again", over(t, c), needed)
	}
}

// P16.2: of those that have no needed page the one of the least wear is taken, of these the first, which is erased ahead, unless nothing was programmed there.
func TestPutTakesTheLeastWorn(t *testing.T) {
	c := chip(t, []int{7})
	for b, wear := range []int{3, 2, 2, 4, 1, 2, 1, 0, 5, 2, 2, 2, 2, 2, 2, 2} {
		for range wear {
			wantCode(t, "Erase", c.Erase(b), api.OK)
		}
	}
	for _, b := range []int{1, 6} {
		wantCode(t, "Program", c.Program(b, 0, some(width, b)), api.OK)
	}
	s, needed := over(t, c), map[int]put{}
	seq := 0
	fill := func(b, erases int) {
		t.Helper()
		wear, ops := c.Wear(b), c.Ops()
		for k := range pages {
			seq++
			wantPut(t, "block "+strconv.Itoa(b), s, one(seq), b*pages+k)
			needed[b*pages+k] = one(seq)
			// The erase is ahead of the first page, and comes only now.
			if c.Wear(b) != wear+erases || c.Ops() != ops+erases+k+1 {
				t.Errorf("block %d: Wear %d, %d operations", b, c.Wear(b), c.Ops()-ops)
			}
		}
	}
	fill(4, 0)
	fill(6, 1)
	fill(1, 1)
	fill(2, 0)
	fill(5, 0)
	dropped(t, s, needed, 24, 25, 26, 27, 16, 17, 18) // of block 6 all, of block 4 all but one
	fill(6, 1)
	dropped(t, s, needed, 19)
	fill(4, 1)
	for b := 9; b < blocks; b++ {
		fill(b, 0)
	}
	dropped(t, s, needed, 4, 5, 6, 7, 24, 25, 26, 27) // both are worn as block 0 is, behind which they come
	fill(0, 0)
	fill(1, 1)
	fill(6, 1)
	fill(3, 0)
	fill(8, 0)
	wantNoPut(t, "full", s, one(1), api.ErrFull)
	wantHeld(t, "full", s, needed)
	if c.Misuse() != 0 {
		t.Errorf("Misuse: %d", c.Misuse())
	}
}

// P16.2: that nothing is needed of the block that pages go to doesn't end that, while it has pages left.
func TestPutGoesOn(t *testing.T) {
	c := chip(t, nil)
	s := over(t, c)
	for i := range 3 * pages {
		// Once it is full, it is the first of the least worn ones again; behind its erase another one is.
		wantPut(t, "on", s, one(i+1), []int{0, 1, 2, 3, 0, 1, 2, 3, 4, 5, 6, 7}[i])
		dropped(t, s, nil, s.Needed()...)
		wantHeld(t, "on", s, nil)
		want := blocks*pages - i%pages - 1
		if i%pages == pages-1 {
			want = blocks * pages
		}
		wantBlocks(t, "on", s, want, 0)
	}
	if c.Ops() != 3*pages+1 || c.Wear(0) != 1 || c.Wear(1) != 0 {
		t.Errorf("%+v", faceOf(c))
	}
}

// P16.2: a block that is half programmed, by whatever befell it, is erased ahead; one that is blank is not.
func TestPutErasesWhatIsProgrammed(t *testing.T) {
	for _, x := range []struct {
		what   string
		many   int // pages that are programmed ahead of the mishap
		fill   byte
		isHere bool // whether the mishap befalls an erase, not a program
		erases int
	}{
		{"a program of nothing", 0, 0, false, 1}, {"a program within", 2, 0, false, 1}, {"a program of the last one", 3, 0, false, 1},
		{"an erase to blank", 2, 255, true, 0}, {"an erase to something else", 2, 254, true, 1}, {"an erase to zeros", 4, 0, true, 1},
	} {
		c := chip(t, nil, api.Mishap{At: x.many + 1, Kind: api.Dark, Fill: x.fill})
		for k := range x.many {
			wantCode(t, x.what, c.Program(0, k, some(width, k)), api.OK)
		}
		e := error(nil)
		if x.isHere {
			e = c.Erase(0)
		} else {
			e = c.Program(0, x.many, raw(t, one(1)))
		}
		wantCode(t, x.what, e, api.ErrDark)
		wantCode(t, x.what, c.Boot(), api.OK)
		for b := 1; b < blocks; b++ { // so that block 0 is worn least
			wantCode(t, x.what, c.Erase(b), api.OK)
			wantCode(t, x.what, c.Erase(b), api.OK)
		}
		s := over(t, c)
		wear, ops := c.Wear(0), c.Ops()
		wantBlocks(t, x.what, s, blocks*pages, 0)
		wantPut(t, x.what, s, one(2), 0)
		if c.Wear(0) != wear+x.erases || c.Ops() != ops+x.erases+1 {
			t.Errorf("%s: Wear %d, %d operations", x.what, c.Wear(0), c.Ops()-ops)
		}
		wantHeld(t, x.what, s, map[int]put{0: one(2)})
		if c.Misuse() != 0 {
			t.Errorf("%s: Misuse %d", x.what, c.Misuse())
		}
	}
}

// P16.2: a block that fails at a program is marked, another one is taken; what was needed of it is read still, also by another store.
func TestPutFailsAtProgram(t *testing.T) {
	for at := 1; at <= 2*pages; at++ {
		for _, many := range []int{0, 1, size, width - 1, width, 1 << 16} {
			what := "a program that fails at " + strconv.Itoa(at)
			c := chip(t, nil, api.Mishap{At: at, Kind: api.Fails, Bytes: many})
			s, needed := over(t, c), map[int]put{}
			failed := (at - 1) / pages
			for i := range 3 * pages {
				want := i
				if i >= at-1 {
					want += pages - (at-1)%pages // those left of the block that failed
				}
				wantPut(t, what, s, one(i+1), want)
				needed[want] = one(i + 1)
			}
			if !c.Marked(failed) || c.Ops() != 3*pages+2 {
				t.Errorf("%s: Marked %v, %d operations", what, c.Marked(failed), c.Ops())
			}
			wantHeld(t, what, s, needed)
			if s.Bad() != 1 || slices.Contains(s.Sealed(), failed) {
				t.Errorf("%s: Bad %d, Sealed %v", what, s.Bad(), s.Sealed())
			}
			wantHeld(t, what+", again", over(t, c), needed)
			s = over(t, c)
			for _, page := range s.Block(failed) {
				dropped(t, s, needed, page)
			}
			wantRoom(t, what, s, needed)
			wantHeld(t, what+", full", s, needed)
			if c.Misuse() != 0 {
				t.Errorf("%s: Misuse %d", what, c.Misuse())
			}
		}
	}
}

// P16.2: a block that fails at the erase is marked, another one is taken.
func TestPutFailsAtErase(t *testing.T) {
	c := chip(t, nil, api.Mishap{At: 65, Kind: api.Fails}, api.Mishap{At: 67, Kind: api.Fails, Bytes: 3})
	s, needed := filled(t, c, 64)
	dropped(t, s, needed, 8, 9, 10, 11, 20, 21, 22, 23, 36, 37, 38, 39)
	wantBlocks(t, "dropped", s, 3*pages, 0, 0, 1, 3, 4, 6, 7, 8, 10, 11, 12, 13, 14, 15)
	wantPut(t, "two that fail", s, one(70), 36) // 65: block 2 is erased, 66: marked, 67: block 5, 68: marked, 69: block 9, 70: its program
	needed[36] = one(70)
	if c.Ops() != 70 || c.Wear(2)+c.Wear(5) != 0 || c.Wear(9) != 1 || !c.Marked(2) || !c.Marked(5) {
		t.Errorf("%+v", faceOf(c))
	}
	wantBlocks(t, "two that fail", s, 3, 2, 0, 1, 3, 4, 6, 7, 8, 10, 11, 12, 13, 14, 15)
	wantHeld(t, "two that fail", s, needed)
	// What was dropped stands in them still, so another store finds it.
	found := map[int]put{}
	for _, page := range []int{8, 9, 10, 11, 20, 21, 22, 23} {
		found[page] = one(page + 1)
	}
	again := over(t, c)
	wantHeld(t, "again", again, with(needed, found))
	wantBlocks(t, "again", again, 0, 2, 0, 1, 3, 4, 6, 7, 8, 9, 10, 11, 12, 13, 14, 15)
	if c.Misuse() != 0 {
		t.Errorf("Misuse %d", c.Misuse())
	}
}

// P16.2: blocks fail one behind the other, till there is no room: then, and ever after, a Put is ErrFull, and what was needed is there.
func TestPutFailsTillThereIsNoRoom(t *testing.T) {
	for many := 0; many <= 6; many++ {
		var ms []api.Mishap
		left := blocks - many/pages
		for i := range left {
			ms = append(ms, api.Mishap{At: many + 2*i + 1, Kind: api.Fails, Bytes: 9 * i})
		}
		c := chip(t, nil, ms...)
		s, needed := filled(t, c, many)
		wantNoPut(t, "all fail", s, one(99), api.ErrFull)
		if c.Ops() != many+2*left {
			t.Errorf("%d operations", c.Ops())
		}
		var sealed []int
		if many >= pages {
			sealed = []int{0}
		}
		wantBlocks(t, "all fail", s, 0, left, sealed...)
		wantHeld(t, "all fail", s, needed)
		before := faceOf(c)
		wantNoPut(t, "all failed", s, one(99), api.ErrFull)
		if faceOf(c) != before || c.Misuse() != 0 {
			t.Errorf("%+v", faceOf(c))
		}
		wantHeld(t, "again", over(t, c), needed)
	}
}

// P16.2: the power goes as a block that failed is to be marked: it is not, but by the next one that fails there.
func TestPutFailsInTheDark(t *testing.T) {
	for many := range pages {
		c := chip(t, nil, api.Mishap{At: many + 1, Kind: api.Fails, Bytes: 20}, api.Mishap{At: many + 2, Kind: api.Dark})
		s, needed := filled(t, c, many)
		wantNoPut(t, "a mark in the dark", s, one(99), api.ErrDark)
		wantTold(t, "a mark in the dark", s, needed)
		if c.Marked(0) || c.Ops() != many+2 || s.Bad() != 0 {
			t.Errorf("%+v, Bad %d", faceOf(c), s.Bad())
		}
		wantCode(t, "Boot", c.Boot(), api.OK)
		s = over(t, c)
		wantHeld(t, "behind it", s, needed)
		if many == 0 {
			// Nothing of it is needed: it is the first one that is taken, erased, and marked.
			wantBlocks(t, "behind it", s, blocks*pages, 0)
			wantPut(t, "behind it", s, one(1), pages)
			wantBlocks(t, "behind it", s, 15*pages-1, 1)
			wantHeld(t, "behind it", s, map[int]put{pages: one(1)})
			continue
		}
		wantBlocks(t, "behind it", s, 15*pages, 0, 0)
		wantPut(t, "behind it", s, one(99), pages)
	}
}

// P16.2: a Put in which the power goes changes nothing that is needed, and tells ErrDark: at its erase, its program, its mark.
func TestPutGoesDark(t *testing.T) {
	for _, at := range []int{65, 66} {
		for _, kind := range []int{0, 255, 7} {
			c := chip(t, nil, api.Mishap{At: at, Kind: api.Dark, Bytes: kind, Fill: byte(kind)})
			s, needed := filled(t, c, 64)
			dropped(t, s, needed, 4, 5, 6, 7)
			wantNoPut(t, "it goes dark", s, one(99), api.ErrDark)
			if c.On() || c.Ops() != at {
				t.Errorf("On %v, %d operations", c.On(), c.Ops())
			}
			wantTold(t, "it goes dark", s, needed)
			wantNoPut(t, "it is dark", s, one(99), api.ErrDark)
			wantCode(t, "Boot", c.Boot(), api.OK)
			s = over(t, c)
			if at == 66 && kind == 255 {
				needed[4] = one(99) // all its bytes were there
			}
			wantHeld(t, "behind it", s, needed)
			dropped(t, s, needed, s.Block(1)...)
			wantRoom(t, "behind it", s, needed)
			wantHeld(t, "behind it", s, needed)
			if len(needed) != 64 || c.Misuse() != 0 {
				t.Errorf("%d are needed, Misuse %d", len(needed), c.Misuse())
			}
		}
	}
}

// P16.3: Room behind each Put and each Drop, with marks and without: just as many Puts go well.
func TestRoom(t *testing.T) {
	for _, g := range geometries() {
		for _, marks := range [][]int{nil, {0, 4, 5}} {
			c := nand.New(g, marks)
			s, needed := over(t, c), map[int]put{}
			want := (g.Blocks - len(marks)) * g.Pages
			wantBlocks(t, "new", s, want, len(marks))
			wantRoom(t, "new", s, needed)
			if len(needed) != want {
				t.Errorf("%d Puts, not %d", len(needed), want)
			}
			free := 0
			for b := g.Blocks - 1; b >= 0; b -= 2 {
				for _, page := range s.Block(b) {
					if s.Room() != free*g.Pages {
						t.Errorf("Room %d, and %d blocks are free", s.Room(), free)
					}
					dropped(t, s, needed, page)
				}
				if !slices.Contains(marks, b) {
					free++
				}
			}
			wantRoom(t, "dropped", s, needed)
			wantHeld(t, "full", s, needed)
			s = over(t, c)
			wantRoom(t, "again", s, needed)
			for b := range 3 {
				dropped(t, s, needed, s.Block(b+1)...)
			}
			wantRoom(t, "again", s, needed)
			if len(needed) != want {
				t.Errorf("%d are needed, not %d", len(needed), want)
			}
		}
	}
}

// P16.3: a block that failed, but isn't marked yet, counts in Room, as it says; behind the Put that marks it no more.
func TestRoomOfFailed(t *testing.T) {
	c := chip(t, nil, api.Mishap{At: 1, Kind: api.Fails})
	wantCode(t, "Erase", c.Erase(3), api.ErrFail)
	s := over(t, c)
	wantBlocks(t, "failed", s, 64, 0)
	for i := range 3*pages + 1 {
		want := i
		if i == 3*pages {
			want += pages
		}
		wantPut(t, "on", s, one(i+1), want)
	}
	wantBlocks(t, "marked", s, 11*pages+3, 1, 0, 1, 2)
}

// T5: while all is dropped again, whatever the rhythm, no block is worn by more than two erases more than another one.
func TestWornEvenly(t *testing.T) {
	for _, kept := range []int{0, 1, 3, 7, 20, 50, 56} {
		c := chip(t, nil)
		s := over(t, c)
		var order []int
		for i := range 3000 {
			page, e := s.Put(one(i+1).h, one(i+1).data)
			wantCode(t, "Put", e, api.OK)
			order = append(order, page)
			for len(order) > kept {
				wantCode(t, "Drop", s.Drop(order[0]), api.OK)
				order = order[1:]
			}
			if i == 1500 { // another one goes on
				s = over(t, c)
				for _, page := range s.Needed() {
					if !slices.Contains(order, page) {
						wantCode(t, "Drop", s.Drop(page), api.OK)
					}
				}
			}
			least, most := c.Wear(0), c.Wear(0)
			for b := range blocks {
				least, most = min(least, c.Wear(b)), max(most, c.Wear(b))
			}
			if most > least+2 {
				t.Fatalf("%d are kept: worn from %d to %d", kept, least, most)
			}
		}
		if c.Wear(0) < 40 || c.Misuse() != 0 {
			t.Errorf("Wear %d, Misuse %d", c.Wear(0), c.Misuse())
		}
	}
}

// R3: each method of a nil store.
func TestNil(t *testing.T) {
	var s *store.Store
	for _, page := range []int{0, -1, math.MinInt, math.MaxInt} {
		wantNoGet(t, "nil", s, page, api.ErrNil)
		wantCode(t, "Drop", s.Drop(page), api.ErrNil)
		if h, is := s.Head(page); is || h != (api.Head{}) {
			t.Errorf("Head: %v, %v", h, is)
		}
		if got := s.Block(page); len(got) != 0 {
			t.Errorf("Block: %v", got)
		}
	}
	wantNoPut(t, "nil", s, one(1), api.ErrNil)
	wantNoPut(t, "nil, of nothing", s, put{}, api.ErrNil)
	if len(s.Needed())+len(s.Sealed())+s.Room()+s.Bad() != 0 || s.Chip() != nil {
		t.Error("nil: it tells something")
	}
}

// R4: what is handed in is not changed, its spare room neither, and not kept; what is answered shares no memory with another answer, nor with what the store holds.
func TestMemory(t *testing.T) {
	s, needed := filled(t, chip(t, nil), 10)
	spare := some(size+40, 77)
	held := bytes.Clone(spare)
	x := put{one(11).h, spare[:size]}
	wantPut(t, "with spare room", s, x, 10)
	wantNoPut(t, "with spare room", s, put{one(12).h, spare[:size-1]}, api.ErrInvalid)
	if !bytes.Equal(spare, held) {
		t.Error("Put: data is changed")
	}
	needed[10] = put{x.h, held[:size]}
	clear(spare)
	wantHeld(t, "written over", s, needed)
	for range 2 {
		data, _, _ := s.Get(10)
		clear(data[:cap(data)])
		for _, list := range [][]int{s.Needed(), s.Block(0), s.Block(2), s.Sealed()} {
			clear(list[:cap(list)])
		}
		wantHeld(t, "answers are written over", s, needed)
		wantBlocks(t, "answers are written over", s, 13*pages+1, 0, 0, 1)
	}
	one, other := s.Needed(), s.Needed()
	clear(one[:cap(one)])
	if !slices.Equal(other, s.Needed()) {
		t.Error("two answers share memory")
	}
}

// R5: the same calls over two chips that are the same answer the same; a call that is refused changes nothing that a later one tells.
func TestSame(t *testing.T) {
	script := func(isTwice bool) []any {
		c := chip(t, []int{6}, api.Mishap{At: 7, Kind: api.Fails, Bytes: 30}, api.Mishap{At: 90, Kind: api.Dark, Bytes: 70, Fill: 3})
		s := over(t, c)
		var told []any
		for i := range 120 {
			if isTwice {
				s.Put(api.Head{}, nil)
				s.Drop(-1)
				s.Drop(s.Chip().Geometry().Blocks * s.Chip().Geometry().Pages)
				s.Get(64)
				s.Head(-1)
			}
			page, e := s.Put(one(i+1).h, one(i+1).data)
			told = append(told, page, api.Code(e), s.Needed(), s.Sealed(), s.Room(), s.Bad(), faceOf(c))
			if e != nil {
				c.Boot()
				s = over(t, c)
			}
			if all := s.Needed(); i%3 > 0 && len(all) > 0 {
				told = append(told, api.Code(s.Drop(all[i*7%len(all)])))
			}
		}
		return told
	}
	first := script(false)
	if !reflect.DeepEqual(first, script(false)) {
		t.Error("the same calls answer something else")
	}
	if !reflect.DeepEqual(first, script(true)) {
		t.Error("calls that are refused change something")
	}
}

// wantPeak fails, if other numbers are the greatest of all heads.
func wantPeak(t *testing.T, what string, s *store.Store, seq, gen int) {
	t.Helper()
	if a, b := s.Greatest(); a != seq || b != gen {
		t.Errorf("%s: Greatest: %d, %d, not %d, %d", what, a, b, seq, gen)
	}
}

// What maplog's P17.1 leans on: the greatest Seq and Gen of all heads that stood in a store, or were put there: those that were dropped, too, of marked blocks, too, and those of a page that may be whole though the power went; not those of a Put that is refused.
func TestPeak(t *testing.T) {
	c := chip(t, nil, api.Mishap{At: 3, Kind: api.Fails, Bytes: 9}, api.Mishap{At: 10, Kind: api.Dark, Bytes: 9999})
	s := over(t, c)
	wantPeak(t, "new", s, 0, 0)
	page := func(seq, gen int) put { return put{api.Head{Kind: api.KindData, Seq: seq, Gen: gen}, some(size, seq)} }
	wantPut(t, "first", s, page(70, 2), 0)
	wantPut(t, "second", s, page(60, 5), 1)
	wantPeak(t, "put", s, 70, 5)
	wantNoPut(t, "refused", s, page(greatestSeq+1, 9), api.ErrInvalid)
	wantNoPut(t, "refused", s, put{page(99, 9).h, nil}, api.ErrInvalid)
	wantPeak(t, "refused", s, 70, 5)
	wantPut(t, "past a block that fails", s, page(71, 3), pages)
	wantCode(t, "Drop", s.Drop(pages), api.OK)
	wantPeak(t, "dropped", s, 71, 5)
	s = over(t, c) // the 6th to the 9th operation
	wantPeak(t, "found", s, 71, 5)
	wantNoPut(t, "goes dark", s, page(80, 8), api.ErrDark)
	wantPeak(t, "goes dark", s, 80, 8)
	wantNoPut(t, "in the dark", s, page(90, 9), api.ErrDark)
	wantPeak(t, "in the dark", s, 80, 8)
	wantCode(t, "Boot", c.Boot(), api.OK)
	wantPeak(t, "behind a crash", over(t, c), 80, 8)
}

package nand_test

import (
	"bytes"
	"math"
	"reflect"
	"slices"
	"strconv"
	"sync"
	"testing"

	"scullery/api"
	"scullery/nand"
)

// The document's limits, in its own numbers.
const mostBlocks, mostPages, leastSize, mostSize, headSize = 32, 8, 128, 256, 28

// width is how many bytes a page of the chips of these tests has, with its head.
const width = leastSize + headSize

// small is the geometry of most chips here.
func small() api.Geometry { return api.Geometry{Blocks: 3, Pages: 4, Size: leastSize} }

// all are geometries at the edges, and between them.
func all() []api.Geometry {
	return []api.Geometry{
		{Blocks: 1, Pages: 1, Size: leastSize}, {Blocks: mostBlocks, Pages: mostPages, Size: mostSize}, {Blocks: 1, Pages: mostPages, Size: 200},
		{Blocks: mostBlocks, Pages: 1, Size: leastSize + 1}, small(),
	}
}

// some are bytes that a number tells; no two pages of a test are alike, and none has a byte 255.
func some(many, seed int) []byte {
	out := make([]byte, many)
	for i := range out {
		out[i] = byte((i*i + i*(2*seed+1) + 11*seed + 5) % 251)
	}
	return out
}

// each are so many bytes that are all one.
func each(many int, by byte) []byte { return bytes.Repeat([]byte{by}, many) }

// made answers a chip, and fails, if there is none.
func made(t *testing.T, g api.Geometry, marks []int, ms ...api.Mishap) *nand.Chip {
	t.Helper()
	c := nand.New(g, marks, ms...)
	if c == nil {
		t.Fatalf("New(%v, %v, %v): none", g, marks, ms)
	}
	return c
}

// wantCode fails, if an error is none of that code: an *api.Wrong, not wrapped, or nil.
func wantCode(t *testing.T, what string, e error, want api.Errno) {
	t.Helper()
	if want == api.OK {
		if e != nil {
			t.Errorf("%s: %v (%T)", what, e, e)
		}
		return
	}
	if w, ok := e.(*api.Wrong); !ok || w == nil || w.Code != want {
		t.Errorf("%s: %v (%T), not %d", what, e, e, want)
	}
}

// wantPage fails, if a page is not read as these bytes.
func wantPage(t *testing.T, what string, c *nand.Chip, block, page int, want []byte) {
	t.Helper()
	if got, e := c.Read(block, page); e != nil || !bytes.Equal(got, want) {
		t.Errorf("%s: page %d of block %d: %v, %v, not %v", what, page, block, got, e, want)
	}
}

// wantNothing fails, if a Read answers anything beside an error of that code.
func wantNothing(t *testing.T, what string, c *nand.Chip, block, page int, want api.Errno) {
	t.Helper()
	got, e := c.Read(block, page)
	wantCode(t, what, e, want)
	if len(got) != 0 {
		t.Errorf("%s: bytes beside an error: %v", what, got)
	}
}

// face is all that a chip tells without an operation.
type face struct {
	G                     api.Geometry
	On                    bool
	Ops, Misuse, Programs int
	Marked                [mostBlocks]bool
	Next, Wear            [mostBlocks]int
}

// faceOf answers what a chip tells.
func faceOf(c *nand.Chip) face {
	f := face{G: c.Geometry(), On: c.On(), Ops: c.Ops(), Misuse: c.Misuse(), Programs: c.Programs()}
	for b := range mostBlocks {
		f.Marked[b], f.Next[b], f.Wear[b] = c.Marked(b), c.Next(b), c.Wear(b)
	}
	return f
}

// wantFace fails, if a chip tells something else than this.
func wantFace(t *testing.T, what string, c *nand.Chip, want face) {
	t.Helper()
	if got := faceOf(c); got != want {
		t.Errorf("%s: %+v, not %+v", what, got, want)
	}
}

// turned answers a face with some of it changed.
func turned(f face, by func(*face)) face {
	by(&f)
	return f
}

// The four operations, in one form: each answers its error alone.
const reading, programming, erasing, marking = 0, 1, 2, 3

// asked does one of the four operations; the page and its bytes are looked at, where it has some.
func asked(c *nand.Chip, which, block, page int, raw []byte) error {
	switch which {
	case reading:
		_, e := c.Read(block, page)
		return e
	case programming:
		return c.Program(block, page, raw)
	case erasing:
		return c.Erase(block)
	}
	return c.Mark(block)
}

// named is an operation's name.
func named(which int) string { return []string{"Read", "Program", "Erase", "Mark"}[which] }

// The document's example.
func TestExample(t *testing.T) {
	for _, g := range []api.Geometry{small(), {Blocks: mostBlocks, Pages: mostPages, Size: mostSize}} {
		c := made(t, g, nil)
		wantCode(t, "Program(0, 1) of a new chip", c.Program(0, 1, some(g.Size+headSize, 1)), api.ErrOrder)
		wantFace(t, "Program(0, 1) of a new chip", c, face{G: g, On: true, Ops: 1, Misuse: 1})
		wantPage(t, "Program(0, 1) of a new chip", c, 0, 1, each(g.Size+headSize, 255))
	}
}

// P8.1: the geometries of which there is a chip.
func TestNewByGeometry(t *testing.T) {
	if api.MaxBlocks != mostBlocks || api.MaxPages != mostPages || api.MinSize != leastSize || api.MaxSize != mostSize || api.HeadSize != headSize {
		t.Fatal("other limits")
	}
	edges := func(least, most int) []int {
		return []int{math.MinInt, -most, -1, 0, 1, least - 1, least, least + 1, most - 1, most, most + 1, 2 * most, 1 << 20, 1 << 32, 1<<32 + most, math.MaxInt}
	}
	fits := func(n, least, most int) bool { return least <= n && n <= most }
	for _, blocks := range edges(1, mostBlocks) {
		for _, pages := range edges(1, mostPages) {
			for _, size := range edges(leastSize, mostSize) {
				g := api.Geometry{Blocks: blocks, Pages: pages, Size: size}
				want := fits(blocks, 1, mostBlocks) && fits(pages, 1, mostPages) && fits(size, leastSize, mostSize)
				c := nand.New(g, nil)
				if (c != nil) != want {
					t.Fatalf("New(%+v): %v, not %v", g, c != nil, want)
				}
				if want {
					wantFace(t, "New", c, face{G: g, On: true})
				}
			}
		}
	}
	for blocks := range 300 {
		if c := nand.New(api.Geometry{Blocks: blocks, Pages: 1, Size: leastSize}, nil); (c != nil) != (1 <= blocks && blocks <= mostBlocks) {
			t.Errorf("%d blocks: %v", blocks, c != nil)
		}
		if c := nand.New(api.Geometry{Blocks: 1, Pages: blocks, Size: leastSize}, nil); (c != nil) != (1 <= blocks && blocks <= mostPages) {
			t.Errorf("%d pages: %v", blocks, c != nil)
		}
		if c := nand.New(api.Geometry{Blocks: 1, Pages: 1, Size: blocks}, nil); (c != nil) != (leastSize <= blocks && blocks <= mostSize) {
			t.Errorf("%d bytes: %v", blocks, c != nil)
		}
	}
}

// P8.1: marks are blocks that there are, each once or more often; those, and no others, are marked.
func TestNewByMarks(t *testing.T) {
	for _, g := range all() {
		last := g.Blocks - 1
		for _, marks := range [][]int{nil, {}, {0}, {last}, {0, last}, {last, 0}, {0, 0}, {last, last, 0, last}, {last / 2}, slices.Repeat([]int{last}, 1000)} {
			c := made(t, g, marks)
			want := face{G: g, On: true}
			for _, b := range marks {
				want.Marked[b] = true
			}
			wantFace(t, "marks", c, want)
		}
		for _, bad := range []int{-1, -2, -last - 1, g.Blocks, g.Blocks + 1, g.Blocks * g.Pages, mostBlocks, 256, 1 << 32, math.MaxInt, math.MinInt} {
			for _, marks := range [][]int{{bad}, {0, bad}, {bad, 0}, {last, bad, last}, {bad, bad}, append(slices.Repeat([]int{0}, 99), bad)} {
				if c := nand.New(g, marks); c != nil {
					t.Errorf("New(%+v, %v): %+v", g, marks, faceOf(c))
				}
			}
		}
	}
}

// P8.1: the mishaps are ones that may be.
func TestNewByMishaps(t *testing.T) {
	good := api.Mishap{At: 3, Kind: api.Fails, Bytes: 5, Fill: 7}
	for _, x := range []struct {
		want bool
		ms   []api.Mishap
	}{
		{true, nil}, {true, []api.Mishap{}}, {true, []api.Mishap{good}}, {true, []api.Mishap{good, {At: 4, Kind: api.Dark}}}, {true, rising(24)}, {false, rising(25)},
		{false, []api.Mishap{good, good}}, {false, []api.Mishap{{At: 4, Kind: api.Dark}, good}}, {false, []api.Mishap{{At: 0, Kind: 1}}},
		{false, []api.Mishap{{At: -1, Kind: 1}}}, {true, []api.Mishap{{At: 1 << 30, Kind: 1}}}, {false, []api.Mishap{{At: 1<<30 + 1, Kind: 1}}},
		{false, []api.Mishap{{At: 1}}}, {false, []api.Mishap{{At: 1, Kind: 3}}}, {false, []api.Mishap{{}}}, {false, []api.Mishap{good, {}}},
		{false, []api.Mishap{{At: 1, Kind: 2, Bytes: -1}}}, {true, []api.Mishap{{At: 1, Kind: 2, Bytes: 1 << 16}}},
		{false, []api.Mishap{{At: 1, Kind: 2, Bytes: 1<<16 + 1}}}, {true, []api.Mishap{{At: 1, Kind: 1, Fill: 255}}},
	} {
		for _, g := range all() {
			if c := nand.New(g, []int{0}, x.ms...); (c != nil) != x.want {
				t.Errorf("New(%+v, {0}, %+v): %v, not %v", g, x.ms, c != nil, x.want)
			}
		}
		for _, g := range []api.Geometry{{}, {Blocks: 1, Pages: 1, Size: leastSize - 1}, {Blocks: mostBlocks + 1, Pages: 1, Size: leastSize}} {
			if nand.New(g, nil, x.ms...) != nil {
				t.Errorf("New(%+v, nil, %+v): a chip", g, x.ms)
			}
		}
		if nand.New(small(), []int{3}, x.ms...) != nil {
			t.Errorf("New with a mark of no block, %+v: a chip", x.ms)
		}
	}
}

// rising are so many mishaps that may be, if they are not too many: far from all operations.
func rising(many int) []api.Mishap {
	var out []api.Mishap
	for i := range many {
		out = append(out, api.Mishap{At: 1<<20 + i, Kind: 1 + i%2})
	}
	return out
}

// P8.1: a new chip has power; all its bytes are 255, of marked blocks too.
func TestNewChip(t *testing.T) {
	for _, g := range all() {
		c := made(t, g, []int{g.Blocks - 1})
		want := face{G: g, On: true}
		want.Marked[g.Blocks-1] = true
		wantFace(t, "new", c, want)
		for b := range g.Blocks {
			for p := range g.Pages {
				wantPage(t, "new", c, b, p, each(g.Size+headSize, 255))
			}
		}
		want.Ops = g.Blocks * g.Pages
		wantFace(t, "read", c, want)
	}
}

// P8.1: without power it is ErrDark, whatever else is asked for, and no operation.
func TestWithoutPower(t *testing.T) {
	for _, off := range []struct {
		how string
		do  func(c *nand.Chip)
	}{{"Off", (*nand.Chip).Off}, {"a Dark Mark", func(c *nand.Chip) { c.Mark(2) }}} {
		c := made(t, small(), []int{1}, api.Mishap{At: 3, Kind: api.Dark}, api.Mishap{At: 4, Kind: api.Fails, Bytes: 3})
		c.Program(0, 0, some(width, 1))
		c.Erase(2)
		off.do(c)
		before := faceOf(c)
		if before.On {
			t.Fatal(off.how)
		}
		for which := range 4 {
			for _, block := range []int{math.MinInt, -1, 0, 1, 2, 3, math.MaxInt} {
				for _, page := range []int{math.MinInt, -1, 0, 1, 3, 4, math.MaxInt} {
					for _, many := range []int{0, 1, width - 1, width, width + 1} {
						wantCode(t, off.how+", "+named(which), asked(c, which, block, page, some(many, 2)), api.ErrDark)
					}
				}
			}
			wantFace(t, off.how+", "+named(which), c, before)
		}
		wantNothing(t, off.how, c, 0, 0, api.ErrDark)
		wantNothing(t, off.how, c, 3, 0, api.ErrDark)
		wantCode(t, off.how+", Boot", c.Boot(), api.OK)
		wantFace(t, off.how+", Boot", c, turned(before, func(f *face) { f.On = true }))
	}
}

// P8.1: of no block, of no page, of bytes that are not as many as a page has it is ErrInvalid, whatever the block is like, and no operation.
func TestInvalid(t *testing.T) {
	for _, g := range all() {
		// What is a block and what is a page are the same number nowhere here; so neither is held against the other's limit.
		wide := g.Size + headSize
		c := made(t, g, []int{g.Blocks - 1}, api.Mishap{At: 1, Kind: api.Fails, Bytes: 3}, api.Mishap{At: 2, Kind: api.Dark})
		before := faceOf(c)
		for _, block := range []int{math.MinInt, -g.Blocks, -1, g.Blocks, g.Blocks + 1, 1000, math.MaxInt} {
			for _, page := range []int{-1, 0, g.Pages - 1, g.Pages} {
				for which := range 4 {
					wantCode(t, "no block, "+named(which), asked(c, which, block, page, some(wide, 1)), api.ErrInvalid)
				}
				wantNothing(t, "no block", c, block, page, api.ErrInvalid)
			}
		}
		for _, page := range []int{math.MinInt, -g.Pages, -1, g.Pages, g.Pages + 1, 1000, math.MaxInt} {
			for _, block := range []int{0, g.Blocks - 1} {
				for _, which := range []int{reading, programming} {
					wantCode(t, "no page, "+named(which), asked(c, which, block, page, some(wide, 1)), api.ErrInvalid)
				}
				wantNothing(t, "no page", c, block, page, api.ErrInvalid)
			}
		}
		for _, many := range []int{0, 1, headSize, g.Size, wide - 1, wide + 1, 2 * wide, 100000} {
			for _, block := range []int{0, g.Blocks - 1} {
				for _, page := range []int{0, g.Pages - 1} {
					wantCode(t, strconv.Itoa(many)+" bytes", c.Program(block, page, some(many, 1)), api.ErrInvalid)
				}
			}
		}
		wantCode(t, "nil", c.Program(0, 0, nil), api.ErrInvalid)
		wantFace(t, "ErrInvalid", c, before)
		// None of these was the first operation: this one is.
		wantCode(t, "the first operation", c.Erase(0), map[bool]api.Errno{true: api.ErrFail, false: api.ErrOrder}[g.Blocks > 1])
		wantCode(t, "the second operation", c.Mark(0), api.ErrDark)
	}
}

// P8.1: ErrInvalid comes ahead of ErrOrder and of ErrFail, and behind ErrDark.
func TestInvalidComesFirst(t *testing.T) {
	c := made(t, small(), []int{1}, api.Mishap{At: 2, Kind: api.Fails})
	wantCode(t, "Program", c.Program(0, 0, some(width, 1)), api.OK)
	wantCode(t, "Program that fails", c.Program(0, 1, some(width, 2)), api.ErrFail)
	before := faceOf(c)
	for _, block := range []int{0, 1, 2} {
		for _, page := range []int{0, 1, 2, 3} {
			wantCode(t, "too few bytes", c.Program(block, page, some(width-1, 3)), api.ErrInvalid)
			wantCode(t, "too many bytes", c.Program(block, page, some(width+1, 3)), api.ErrInvalid)
		}
		wantCode(t, "no page", c.Program(block, 4, some(width, 3)), api.ErrInvalid)
		wantCode(t, "no page", c.Program(block, -1, some(width, 3)), api.ErrInvalid)
	}
	wantFace(t, "ErrInvalid", c, before)
}

// P8.1: each Read, Program, Erase and Mark that is none of these is an operation, one that is misuse too, and the mishap of its number befalls it.
func TestMishapsByNumber(t *testing.T) {
	const steps = 12
	step := func(c *nand.Chip, i int) error {
		switch i % 6 {
		case 0:
			return c.Program(0, 0, some(width, 1))
		case 1:
			return asked(c, reading, 0, 0, nil)
		case 2:
			return c.Mark(2)
		case 3:
			return c.Program(0, 3, some(width, 2)) // misuse
		case 4:
			return c.Erase(2) // misuse
		}
		return c.Erase(0)
	}
	whole := []api.Errno{api.OK, api.OK, api.OK, api.ErrOrder, api.ErrOrder, api.OK}
	for at := 1; at <= steps; at++ {
		c := made(t, small(), nil, api.Mishap{At: at, Kind: api.Dark, Fill: 255}, api.Mishap{At: steps + 1, Kind: api.Dark})
		for i := range steps {
			// What is no operation takes no number.
			wantCode(t, "no block", c.Erase(3), api.ErrInvalid)
			want := whole[i%6]
			if i+1 == at {
				want = api.ErrDark
			}
			wantCode(t, "the operation "+strconv.Itoa(i+1)+" of a mishap at "+strconv.Itoa(at), step(c, i), want)
			if c.Ops() != i+1 || c.On() != (i+1 != at) {
				t.Errorf("a mishap at %d: Ops %d, On %v behind %d", at, c.Ops(), c.On(), i+1)
			}
			if i+1 == at {
				wantCode(t, "in the dark", c.Mark(0), api.ErrDark)
				wantCode(t, "Boot", c.Boot(), api.OK)
				break
			}
		}
	}
	late := made(t, small(), nil, api.Mishap{At: 5000, Kind: api.Fails}, api.Mishap{At: 5001, Kind: api.Dark})
	for i := 1; i <= 5001; i++ {
		want := map[int]api.Errno{5000: api.ErrFail, 5001: api.ErrDark}[i]
		wantCode(t, "Erase "+strconv.Itoa(i), late.Erase(i%3), want)
	}
	wantCode(t, "Boot", late.Boot(), api.OK)
	wantCode(t, "behind all mishaps", late.Erase(0), api.OK)
}

// P8.2: pages are programmed in order, read, and erased; nothing befalls the chip.
func TestWithoutMishaps(t *testing.T) {
	for _, g := range all() {
		wide := g.Size + headSize
		c := made(t, g, nil)
		want := face{G: g, On: true}
		pages := map[[2]int][]byte{}
		check := func(what string) {
			t.Helper()
			wantFace(t, what, c, want)
			for b := range g.Blocks {
				for p := range g.Pages {
					raw := pages[[2]int{b, p}]
					if raw == nil {
						raw = each(wide, 255)
					}
					wantPage(t, what, c, b, p, raw)
				}
			}
			want.Ops += g.Blocks * g.Pages
			wantFace(t, what, c, want)
		}
		for round := range 2 {
			for b := range g.Blocks {
				for p := range g.Pages {
					raw := some(wide, 97*round+g.Pages*b+p)
					wantCode(t, "Program", c.Program(b, p, raw), api.OK)
					pages[[2]int{b, p}] = raw
					want.Next[b]++
					want.Ops++
					want.Programs++
					wantFace(t, "Program", c, want)
				}
			}
			check("full")
			for b := g.Blocks - 1; b >= 0; b -= 1 + round {
				wantCode(t, "Erase", c.Erase(b), api.OK)
				want.Next[b] = 0
				want.Wear[b]++
				want.Ops++
				for p := range g.Pages {
					delete(pages, [2]int{b, p})
				}
				wantFace(t, "Erase", c, want)
			}
			check("erased")
		}
	}
}

// P8.2: Erase of an empty block, of one that is half full, of a full one, over and over: its Wear rises by one each time.
func TestErase(t *testing.T) {
	for full := range 5 {
		c := made(t, small(), nil)
		for times := 1; times <= 3; times++ {
			for p := range full {
				wantCode(t, "Program", c.Program(1, p, some(width, p)), api.OK)
			}
			if c.Next(1) != full {
				t.Errorf("Next: %d, not %d", c.Next(1), full)
			}
			wantCode(t, "Erase", c.Erase(1), api.OK)
			if c.Next(1) != 0 || c.Wear(1) != times || c.Wear(0)+c.Wear(2) != 0 {
				t.Errorf("erased %d times: Next %d, Wear %d", times, c.Next(1), c.Wear(1))
			}
			for p := range 4 {
				wantPage(t, "erased", c, 1, p, each(width, 255))
			}
		}
	}
	c := made(t, small(), nil)
	for times := 1; times <= 2000; times++ {
		c.Erase(0)
	}
	if c.Wear(0) != 2000 || c.Ops() != 2000 {
		t.Errorf("Wear %d, Ops %d", c.Wear(0), c.Ops())
	}
}

// P8.2: Mark, of a block that is marked, of one that is empty, full, or failed.
func TestMark(t *testing.T) {
	for _, marks := range [][]int{nil, {1}} {
		for full := range 5 {
			c := made(t, small(), marks)
			for p := range full {
				c.Program(1, p, some(width, p))
			}
			before := faceOf(c)
			for times := 1; times <= 3; times++ {
				wantCode(t, "Mark", c.Mark(1), api.OK)
				wantFace(t, "Mark", c, turned(before, func(f *face) { f.Ops += times; f.Marked[1] = true }))
			}
			for p := range 4 {
				want := each(width, 255)
				if p < full && marks == nil {
					want = some(width, p)
				}
				wantPage(t, "marked", c, 1, p, want)
			}
		}
	}
	c := made(t, small(), nil, api.Mishap{At: 1, Kind: api.Fails, Bytes: 10})
	wantCode(t, "Program", c.Program(2, 0, some(width, 4)), api.ErrFail)
	wantCode(t, "Mark of a block that failed", c.Mark(2), api.OK)
	wantFace(t, "Mark of a block that failed", c, turned(face{G: small(), On: true, Ops: 2}, func(f *face) { f.Marked[2], f.Next[2] = true, 1 }))
	wantCode(t, "marked ahead of failed", c.Program(2, 1, some(width, 5)), api.ErrOrder)
	wantCode(t, "marked ahead of failed", c.Erase(2), api.ErrOrder)
	if c.Misuse() != 2 || c.Next(2) != 1 || c.Wear(2) != 0 {
		t.Errorf("Misuse %d, Next %d, Wear %d", c.Misuse(), c.Next(2), c.Wear(2))
	}
	wantPage(t, "marked and failed", c, 2, 0, append(some(width, 4)[:10], each(width-10, 255)...))
}

// P8.2: Read under a mishap: a Dark one takes the power, and answers nothing; one that Fails does nothing, and no block fails by it.
func TestReadUnderMishaps(t *testing.T) {
	for _, bytes := range []int{0, 1, width, 1 << 16} {
		for _, marks := range [][]int{nil, {2}} {
			c := made(t, small(), marks, api.Mishap{At: 2, Kind: api.Fails, Bytes: bytes}, api.Mishap{At: 3, Kind: api.Dark, Bytes: bytes, Fill: 9})
			wantCode(t, "Program", c.Program(0, 0, some(width, 1)), api.OK)
			before := faceOf(c)
			wantPage(t, "Read that fails", c, 0, 0, some(width, 1))
			wantFace(t, "Read that fails", c, turned(before, func(f *face) { f.Ops = 2 }))
			wantNothing(t, "Read that is dark", c, 0, 0, api.ErrDark)
			wantFace(t, "Read that is dark", c, turned(before, func(f *face) { f.Ops = 3; f.On = false }))
			wantCode(t, "Boot", c.Boot(), api.OK)
			wantPage(t, "Read again", c, 0, 0, some(width, 1))
			wantPage(t, "Read again", c, 2, 3, each(width, 255))
			wantCode(t, "Program of a block whose Read failed", c.Program(0, 1, some(width, 2)), api.OK)
			wantCode(t, "Erase of a block whose Read failed", c.Erase(0), api.OK)
		}
	}
}

// P8.2: Mark under a mishap: a Dark one takes the power, and does not mark; one that Fails marks, and no block fails by it.
func TestMarkUnderMishaps(t *testing.T) {
	c := made(t, small(), []int{1}, api.Mishap{At: 2, Kind: api.Dark, Bytes: 5, Fill: 9}, api.Mishap{At: 3, Kind: api.Fails, Bytes: 5, Fill: 9}, api.Mishap{At: 4, Kind: api.Dark}, api.Mishap{At: 5, Kind: api.Fails})
	c.Program(0, 0, some(width, 1))
	before := faceOf(c)
	wantCode(t, "Mark that is dark", c.Mark(0), api.ErrDark)
	before.Ops, before.On = 2, false
	wantFace(t, "Mark that is dark", c, before)
	c.Boot()
	wantCode(t, "Mark that fails", c.Mark(0), api.OK)
	before.Ops, before.On, before.Marked[0] = 3, true, true
	wantFace(t, "Mark that fails", c, before)
	wantCode(t, "Mark of a marked one that is dark", c.Mark(0), api.ErrDark)
	before.Ops, before.On = 4, false
	wantFace(t, "Mark of a marked one that is dark", c, before)
	c.Boot()
	wantCode(t, "Mark of a marked one that fails", c.Mark(1), api.OK)
	before.Ops, before.On = 5, true
	wantFace(t, "Mark of a marked one that fails", c, before)
	wantPage(t, "marked", c, 0, 0, some(width, 1))

	// A block whose Mark went dark did not fail, and can be marked later.
	c = made(t, small(), nil, api.Mishap{At: 1, Kind: api.Dark})
	wantCode(t, "Mark that is dark", c.Mark(2), api.ErrDark)
	c.Boot()
	wantCode(t, "Program", c.Program(2, 0, some(width, 3)), api.OK)
	wantCode(t, "Erase", c.Erase(2), api.OK)
	wantCode(t, "Mark", c.Mark(2), api.OK)
}

// P8.2: Program of a marked block, or of a page that is not its Next, and Erase of a marked block: Misuse is one more, and nothing else, but for the power, if it is Dark.
func TestMisuse(t *testing.T) {
	type ask struct {
		what               string
		full               int // how many pages are programmed ahead of it
		marked             bool
		which, block, page int
	}
	var asks []ask
	for full := range 5 {
		for page := range 4 {
			if page != full {
				asks = append(asks, ask{"Program of another page", full, false, programming, 1, page})
			}
			asks = append(asks, ask{"Program of a marked block", full, true, programming, 1, page})
		}
		asks = append(asks, ask{"Erase of a marked block", full, true, erasing, 1, 0})
	}
	for _, x := range asks {
		for _, m := range []api.Mishap{{}, {Kind: api.Fails}, {Kind: api.Fails, Bytes: 50, Fill: 7}, {Kind: api.Fails, Bytes: 9999}, {Kind: api.Dark}, {Kind: api.Dark, Bytes: 50, Fill: 7}, {Kind: api.Dark, Bytes: 9999, Fill: 255}} {
			m.At = x.full + 1
			if x.marked {
				m.At++
			}
			var ms []api.Mishap
			if m.Kind != 0 {
				ms = append(ms, m)
			}
			c := made(t, small(), nil, ms...)
			for p := range x.full {
				wantCode(t, x.what, c.Program(1, p, some(width, p)), api.OK)
			}
			if x.marked {
				wantCode(t, x.what, c.Mark(1), api.OK)
			}
			want := faceOf(c)
			want.Ops++
			want.Misuse++
			code := api.Errno(api.ErrOrder)
			if m.Kind == api.Dark {
				want.On = false
				code = api.ErrDark
			}
			wantCode(t, x.what, asked(c, x.which, x.block, x.page, some(width, 9)), code)
			wantFace(t, x.what, c, want)
			c.Boot()
			for p := range 4 {
				raw := each(width, 255)
				if p < x.full {
					raw = some(width, p)
				}
				wantPage(t, x.what, c, 1, p, raw)
			}
			// It did not fail by it.
			if !x.marked {
				if x.full < 4 {
					wantCode(t, x.what+", and the next one", c.Program(1, x.full, some(width, 8)), api.OK)
				}
				wantCode(t, x.what+", and Erase", c.Erase(1), api.OK)
			}
		}
	}
}

// P8.2: Program of Next under a mishap: how much of it is there, and what becomes of its block.
func TestProgramUnderMishaps(t *testing.T) {
	for _, g := range []api.Geometry{small(), {Blocks: 3, Pages: 5, Size: mostSize}} {
		wide := g.Size + headSize
		raw := some(wide, 3)
		for _, many := range []int{0, 1, 2, headSize, g.Size - 1, g.Size, g.Size + 1, wide - 2, wide - 1, wide, wide + 1, 2 * wide, 1 << 16} {
			for page := range 3 {
				for _, kind := range []int{api.Fails, api.Dark} {
					what := "Program, Kind " + strconv.Itoa(kind) + ", Bytes " + strconv.Itoa(many)
					c := made(t, g, nil, api.Mishap{At: page + 1, Kind: kind, Bytes: many, Fill: 77})
					for p := range page {
						wantCode(t, what, c.Program(1, p, some(wide, p)), api.OK)
					}
					want := faceOf(c)
					want.Ops++
					want.Next[1]++
					code, there := api.Errno(api.ErrFail), min(many, wide-1)
					if kind == api.Dark {
						want.On = false
						code, there = api.ErrDark, min(many, wide)
					}
					wantCode(t, what, c.Program(1, page, raw), code)
					wantFace(t, what, c, want)
					c.Boot()
					for p := range g.Pages {
						left := each(wide, 255)
						if p < page {
							left = some(wide, p)
						}
						if p == page {
							copy(left, raw[:there])
						}
						wantPage(t, what, c, 1, p, left)
						wantPage(t, what, c, 0, p, each(wide, 255))
						wantPage(t, what, c, 2, p, each(wide, 255))
					}
					// The page is no page to be programmed any more; the next one is, if the block did not fail.
					wantCode(t, what+", once more", c.Program(1, page, raw), api.ErrOrder)
					again := map[int]api.Errno{api.Fails: api.ErrFail, api.Dark: api.OK}[kind]
					wantCode(t, what+", the next one", c.Program(1, page+1, raw), again)
					wantCode(t, what+", another block", c.Program(0, 0, raw), api.OK)
					wantCode(t, what+", Erase", c.Erase(1), again)
				}
			}
		}
	}
}

// P8.2: a block that failed: nothing of it is programmed or erased any more, over Off and Boot too; its pages are read, and other blocks go well.
func TestFailedBlock(t *testing.T) {
	for _, how := range []int{programming, erasing} {
		for _, m := range []api.Mishap{{}, {Kind: api.Fails, Bytes: 60, Fill: 3}, {Kind: api.Dark, Bytes: 60, Fill: 3}, {Kind: api.Dark, Bytes: 9999, Fill: 255}, {Kind: api.Dark}} {
			ms := []api.Mishap{{At: 2, Kind: api.Fails, Bytes: 40, Fill: 0}}
			if m.Kind != 0 {
				for at := 3; at <= 5; at++ {
					m.At = at
					ms = append(ms, m)
				}
			}
			what := "failed by " + named(how) + ", then Kind " + strconv.Itoa(m.Kind) + " of Fill " + strconv.Itoa(int(m.Fill))
			c := made(t, small(), nil, ms...)
			wantCode(t, what, c.Program(1, 0, some(width, 1)), api.OK)
			wantCode(t, what, asked(c, how, 1, 1, some(width, 2)), api.ErrFail)
			want := face{G: small(), On: true, Ops: 2, Programs: 1}
			want.Next[1] = map[int]int{programming: 2, erasing: 1}[how]
			wantFace(t, what, c, want)

			code, on := api.Errno(api.ErrFail), true
			if m.Kind == api.Dark {
				code, on = api.ErrDark, false
			}
			wantCode(t, what+": Program", c.Program(1, want.Next[1], some(width, 3)), code)
			want.Ops, want.On = 3, on
			want.Next[1]++
			wantFace(t, what+": Program", c, want)
			c.Off()
			c.Boot()
			wantCode(t, what+": Erase", c.Erase(1), code)
			want.Ops = 4
			wantFace(t, what+": Erase", c, want)
			c.Off()
			c.Boot()
			// Of a block that failed the order counts as well.
			wantCode(t, what+": Program of another page", c.Program(1, 0, some(width, 4)), map[bool]api.Errno{true: api.ErrOrder, false: api.ErrDark}[on])
			want.Ops, want.Misuse = 5, 1
			wantFace(t, what+": Program of another page", c, want)
			c.Off()
			c.Boot()

			wantPage(t, what, c, 1, 0, some(width, 1))
			second := each(width, 255)
			if how == programming {
				copy(second, some(width, 2)[:40])
			}
			wantPage(t, what, c, 1, 1, second)
			wantPage(t, what, c, 1, 2, each(width, 255))
			wantPage(t, what, c, 1, 3, each(width, 255))
			for p := want.Next[1]; p < 4; p++ {
				wantCode(t, what+": the pages left", c.Program(1, p, some(width, 5)), api.ErrFail)
				wantPage(t, what+": the pages left", c, 1, p, each(width, 255))
			}
			wantCode(t, what+": full", c.Program(1, 3, some(width, 5)), api.ErrOrder)
			wantCode(t, what+": Erase of it full", c.Erase(1), api.ErrFail)
			if c.Next(1) != 4 || c.Wear(1) != 0 || c.Programs() != 1 || c.Misuse() != 2 {
				t.Errorf("%s: %+v", what, faceOf(c))
			}
			for _, b := range []int{0, 2} {
				for p := range 4 {
					wantCode(t, what+": another block", c.Program(b, p, some(width, b+p)), api.OK)
					wantPage(t, what+": another block", c, b, p, some(width, b+p))
				}
				wantCode(t, what+": another block", c.Erase(b), api.OK)
			}
		}
	}
}

// P8.2: Erase that Fails: nothing of the block changes, but that it failed; its Bytes and Fill count for nothing.
func TestEraseFails(t *testing.T) {
	for full := range 5 {
		for _, m := range []api.Mishap{{Fill: 255}, {Fill: 0, Bytes: 9999}, {Fill: 9, Bytes: 3}} {
			m.At, m.Kind = full+1, api.Fails
			c := made(t, small(), nil, m)
			for p := range full {
				c.Program(1, p, some(width, p))
			}
			want := faceOf(c)
			want.Ops++
			wantCode(t, "Erase that fails", c.Erase(1), api.ErrFail)
			wantFace(t, "Erase that fails", c, want)
			for p := range 4 {
				left := each(width, 255)
				if p < full {
					left = some(width, p)
				}
				wantPage(t, "Erase that fails", c, 1, p, left)
			}
			wantCode(t, "Erase again", c.Erase(1), api.ErrFail)
			if full < 4 {
				wantCode(t, "Program behind it", c.Program(1, full, some(width, 7)), api.ErrFail)
				wantPage(t, "Program behind it", c, 1, full, each(width, 255))
			}
		}
	}
}

// P8.2: Erase that is Dark, of an empty block, of one that is half full, of a full one: all bytes are Fill, and it can be programmed only if these are 255.
func TestEraseDark(t *testing.T) {
	for full := range 5 {
		for _, fill := range []byte{255, 0, 1, 7, 128, 254} {
			for _, many := range []int{0, 1, 50, width, 9999} {
				what := "Erase of " + strconv.Itoa(full) + " pages, Fill " + strconv.Itoa(int(fill))
				c := made(t, small(), nil, api.Mishap{At: full + 1, Kind: api.Dark, Bytes: many, Fill: fill})
				for p := range full {
					c.Program(1, p, some(width, p))
				}
				want := faceOf(c)
				want.Ops, want.On, want.Wear[1], want.Next[1] = full+1, false, 1, 4
				if fill == 255 {
					want.Next[1] = 0
				}
				wantCode(t, what, c.Erase(1), api.ErrDark)
				wantFace(t, what, c, want)
				c.Boot()
				for p := range 4 {
					wantPage(t, what, c, 1, p, each(width, fill))
					wantPage(t, what, c, 0, p, each(width, 255))
					wantPage(t, what, c, 2, p, each(width, 255))
				}
				if fill != 255 {
					for p := range 4 {
						wantCode(t, what+": Program", c.Program(1, p, some(width, 8)), api.ErrOrder)
						wantPage(t, what+": Program", c, 1, p, each(width, fill))
					}
					wantCode(t, what+": Erase", c.Erase(1), api.OK)
					if c.Wear(1) != 2 || c.Next(1) != 0 {
						t.Errorf("%s: erased again: %+v", what, faceOf(c))
					}
				}
				for p := range 4 {
					wantPage(t, what+": blank", c, 1, p, each(width, 255))
					wantCode(t, what+": Program", c.Program(1, p, some(width, 8+p)), api.OK)
					wantPage(t, what+": Program", c, 1, p, some(width, 8+p))
				}
			}
		}
	}
}

// P8.3: Marked, Next and Wear, of blocks and of none.
func TestOfNoBlock(t *testing.T) {
	for _, g := range all() {
		last := g.Blocks - 1
		c := made(t, g, nil)
		for b := range g.Blocks {
			c.Erase(b)
			c.Program(b, 0, some(g.Size+headSize, b))
			c.Mark(b)
		}
		for _, b := range []int{0, last} {
			if !c.Marked(b) || c.Next(b) != 1 || c.Wear(b) != 1 {
				t.Errorf("block %d: %v, %d, %d", b, c.Marked(b), c.Next(b), c.Wear(b))
			}
		}
		for _, b := range []int{-1, -2, -g.Blocks, last + 1, last + 2, g.Blocks * g.Pages, 256, 1 << 32, math.MaxInt, math.MinInt} {
			if c.Marked(b) || c.Next(b) != 0 || c.Wear(b) != 0 {
				t.Errorf("block %d of %d: %v, %d, %d", b, g.Blocks, c.Marked(b), c.Next(b), c.Wear(b))
			}
		}
	}
}

// P8.3: On, Off and Boot; what lasts over them is all but the power.
func TestPower(t *testing.T) {
	c := made(t, small(), []int{2}, api.Mishap{At: 4, Kind: api.Dark}, api.Mishap{At: 6, Kind: api.Fails})
	c.Program(0, 0, some(width, 1))
	c.Program(0, 3, some(width, 1))
	c.Erase(1)
	want := face{G: small(), On: true, Ops: 3, Misuse: 1, Programs: 1}
	want.Marked[2], want.Next[0], want.Wear[1] = true, 1, 1
	wantFace(t, "ahead", c, want)
	for range 3 {
		wantCode(t, "Boot while it is on", c.Boot(), api.ErrState)
		wantFace(t, "Boot while it is on", c, want)
	}
	for range 3 {
		want.On = false
		c.Off()
		wantFace(t, "Off", c, want)
		c.Off()
		wantFace(t, "Off twice", c, want)
		want.On = true
		wantCode(t, "Boot behind Off", c.Boot(), api.OK)
		wantFace(t, "Boot behind Off", c, want)
		wantCode(t, "Boot twice", c.Boot(), api.ErrState)
		wantFace(t, "Boot twice", c, want)
	}
	wantNothing(t, "a Dark Read", c, 0, 0, api.ErrDark)
	want.Ops, want.On = 4, false
	wantFace(t, "a Dark Read", c, want)
	c.Off()
	wantFace(t, "Off behind a Dark", c, want)
	wantCode(t, "Boot behind a Dark", c.Boot(), api.OK)
	want.On = true
	wantFace(t, "Boot behind a Dark", c, want)
	wantPage(t, "Boot behind a Dark", c, 0, 0, some(width, 1))
	c.Off()
	c.Boot()
	// The mishaps that were still to come are, over each loss of power.
	wantCode(t, "the sixth operation", c.Erase(0), api.ErrFail)
	c.Off()
	c.Boot()
	wantCode(t, "failed over Boot", c.Erase(0), api.ErrFail)
	wantPage(t, "failed over Boot", c, 0, 0, some(width, 1))
}

// P8.3: Programs counts those that went well alone; Misuse those that were ErrOrder, or would have been; Ops all.
func TestCounts(t *testing.T) {
	c := made(t, small(), []int{2}, api.Mishap{At: 3, Kind: api.Dark, Bytes: 9999}, api.Mishap{At: 5, Kind: api.Fails, Bytes: 9999}, api.Mishap{At: 8, Kind: api.Dark}, api.Mishap{At: 9, Kind: api.Dark})
	for i, x := range []struct {
		which, block, page       int
		code                     api.Errno
		ops, misuse, programs, n int
	}{
		{programming, 0, 0, api.OK, 1, 0, 1, 1}, {programming, 0, 1, api.OK, 2, 0, 2, 2}, {programming, 0, 2, api.ErrDark, 3, 0, 2, 3}, {programming, 0, 3, api.OK, 4, 0, 3, 4},
		{programming, 1, 0, api.ErrFail, 5, 0, 3, 1}, {programming, 1, 1, api.ErrFail, 6, 0, 3, 2}, {programming, 0, 3, api.ErrOrder, 7, 1, 3, 4},
		{programming, 2, 0, api.ErrDark, 8, 2, 3, 0}, {erasing, 2, 0, api.ErrDark, 9, 3, 3, 0}, {erasing, 2, 0, api.ErrOrder, 10, 4, 3, 0}, {programming, 0, 4, api.ErrInvalid, 10, 4, 3, 4},
		{reading, 2, 0, api.OK, 11, 4, 3, 0}, {marking, 2, 0, api.OK, 12, 4, 3, 0}, {erasing, 0, 0, api.OK, 13, 4, 3, 0}, {erasing, 1, 0, api.ErrFail, 14, 4, 3, 2},
	} {
		what := "the step " + strconv.Itoa(i)
		wantCode(t, what, asked(c, x.which, x.block, x.page, some(width, i)), x.code)
		if c.Ops() != x.ops || c.Misuse() != x.misuse || c.Programs() != x.programs || c.Next(x.block) != x.n || c.On() != (x.code != api.ErrDark) {
			t.Errorf("%s: %+v", what, faceOf(c))
		}
		c.Boot()
	}
}

// R1, R3: methods of a nil pointer, and of a chip that nobody made.
func TestNil(t *testing.T) {
	var c *nand.Chip
	for _, block := range []int{-1, 0, 1, math.MaxInt, math.MinInt} {
		for _, page := range []int{-1, 0, 1, math.MaxInt, math.MinInt} {
			for _, raw := range [][]byte{nil, {}, some(headSize, 1), some(width, 1)} {
				for which := range 4 {
					wantCode(t, "nil, "+named(which), asked(c, which, block, page, raw), api.ErrNil)
				}
			}
			wantNothing(t, "nil", c, block, page, api.ErrNil)
		}
		if c.Marked(block) || c.Next(block) != 0 || c.Wear(block) != 0 {
			t.Errorf("nil, block %d", block)
		}
	}
	wantCode(t, "nil, Boot", c.Boot(), api.ErrNil)
	c.Off()
	wantCode(t, "nil, Boot behind Off", c.Boot(), api.ErrNil)
	wantFace(t, "nil", c, face{})

	// No chip that New answered is like this one: it must not panic all the same.
	none := new(nand.Chip)
	for range 2 {
		for which := range 4 {
			asked(none, which, 0, 0, nil)
			asked(none, which, -1, -1, some(headSize, 1))
		}
		faceOf(none)
		none.Boot()
	}
	none.Off()
}

// Ways: a chip embeds nothing.
func TestChipEmbedsNothing(t *testing.T) {
	for _, f := range reflect.VisibleFields(reflect.TypeFor[nand.Chip]()) {
		if f.Anonymous || f.IsExported() {
			t.Errorf("field %s", f.Name)
		}
	}
}

// R4: marks and mishaps that are lent stay, their spare room too, and are not kept.
func TestLentToNew(t *testing.T) {
	fillerMishap := api.Mishap{At: 1, Kind: api.Dark, Bytes: 9999, Fill: 0xEE}
	for _, room := range []int{0, 1, 40} {
		marks := slices.Concat([]int{2, 0, 2}, slices.Repeat([]int{1}, room))
		ms := slices.Concat([]api.Mishap{{At: 2, Kind: api.Fails, Bytes: 9}, {At: 4, Kind: api.Dark, Bytes: 8}}, slices.Repeat([]api.Mishap{fillerMishap}, room))
		marksWere, msWere := slices.Clone(marks), slices.Clone(ms)
		c := made(t, small(), marks[:3], ms[:2]...)
		if nand.New(small(), append(marks[:3:3], 7), ms[:2]...) != nil || nand.New(api.Geometry{}, marks[:3], ms[:2]...) != nil {
			t.Error("a chip that may not be")
		}
		if !slices.Equal(marks, marksWere) || !slices.Equal(ms, msWere) {
			t.Errorf("changed: %v, %v", marks, ms)
		}
		for i := range marks {
			marks[i] = 1
		}
		for i := range ms {
			ms[i] = fillerMishap
		}
		want := face{G: small(), On: true}
		want.Marked[0], want.Marked[2] = true, true
		wantFace(t, "written over", c, want)
		wantCode(t, "the first operation", c.Program(1, 0, some(width, 1)), api.OK)
		wantCode(t, "the second operation", c.Program(1, 1, some(width, 2)), api.ErrFail)
		wantPage(t, "the third operation", c, 1, 1, append(some(width, 2)[:9], each(width-9, 255)...))
		wantNothing(t, "the fourth operation", c, 1, 1, api.ErrDark)
		if !slices.Equal(ms, slices.Repeat([]api.Mishap{fillerMishap}, 2+room)) || !slices.Equal(marks, slices.Repeat([]int{1}, 3+room)) {
			t.Errorf("changed later: %v, %v", marks, ms)
		}
	}
}

// R4: the bytes that Program is lent stay, their spare room too, and are not kept, whatever befalls it.
func TestLentToProgram(t *testing.T) {
	for _, m := range []api.Mishap{{At: 9, Kind: api.Fails}, {At: 1, Kind: api.Fails, Bytes: 9999}, {At: 1, Kind: api.Dark, Bytes: 9999}, {At: 1, Kind: api.Dark, Bytes: 20}} {
		for _, room := range []int{0, 1, width, 1000} {
			lent := append(some(width, 1), each(room, 0xEE)...)
			were := bytes.Clone(lent)
			c := made(t, small(), nil, m)
			e := c.Program(0, 0, lent[:width])
			for _, many := range []int{0, 1, width - 1} {
				c.Program(0, 1, lent[:many])
			}
			c.Program(0, 3, lent[:width])
			if !bytes.Equal(lent, were) {
				t.Errorf("changed: %v", lent)
			}
			c.Boot()
			first, _ := c.Read(0, 0)
			copy(lent, each(len(lent), 0x33))
			want := each(width, 255)
			there := width
			if e != nil {
				there = min(m.Bytes, width)
			}
			if api.Code(e) == api.ErrFail {
				there = min(there, width-1)
			}
			copy(want, were[:there])
			if !bytes.Equal(first, want) {
				t.Errorf("%+v: %v", m, first)
			}
			wantPage(t, "written over", c, 0, 0, want)
			wantPage(t, "written over", c, 0, 1, each(width, 255))
			c.Erase(0)
			if !bytes.Equal(lent, each(len(lent), 0x33)) {
				t.Errorf("changed by an erase: %v", lent)
			}
		}
	}
}

// R4: what Read answers shares no memory with the chip, nor with another answer.
func TestAnswersStandAlone(t *testing.T) {
	c := made(t, small(), nil)
	for p := range 3 {
		c.Program(0, p, some(width, p))
	}
	for p := range 4 {
		want := each(width, 255)
		if p < 3 {
			want = some(width, p)
		}
		first, _ := c.Read(0, p)
		second, _ := c.Read(0, p)
		copy(first, each(width, 0x11))
		if !bytes.Equal(second, want) {
			t.Errorf("page %d: %v", p, second)
		}
		for _, room := range []int{1, width, 4 * width} {
			_ = append(second, each(room, 0x22)...)
		}
		whole := second[:cap(second)]
		copy(whole, each(len(whole), 0x44))
		for q := range 4 {
			left := each(width, 255)
			if q < 3 {
				left = some(width, q)
			}
			wantPage(t, "written over", c, 0, q, left)
			wantPage(t, "written over", c, 1, q, each(width, 255))
		}
	}
	// What was answered stays, whatever is done to the chip.
	first, _ := c.Read(0, 1)
	blank, _ := c.Read(0, 3)
	c.Program(0, 3, some(width, 9))
	c.Erase(0)
	if !bytes.Equal(first, some(width, 1)) || !bytes.Equal(blank, each(width, 255)) {
		t.Errorf("changed: %v, %v", first, blank)
	}
	// An answer may be lent again.
	again := made(t, small(), nil)
	again.Program(0, 0, first)
	copy(first, each(width, 0x55))
	wantPage(t, "lent again", again, 0, 0, some(width, 1))
}

// R5: a chip hangs on what it was told alone: not on other chips, nor on how goroutines run.
func TestChipsStandAlone(t *testing.T) {
	one, other := made(t, small(), nil), made(t, small(), nil, api.Mishap{At: 1, Kind: api.Dark, Fill: 3})
	wantCode(t, "Erase", other.Erase(0), api.ErrDark)
	one.Program(1, 0, some(width, 1))
	one.Mark(2)
	want := face{G: small(), On: true, Ops: 2, Programs: 1}
	want.Marked[2], want.Next[1] = true, 1
	wantFace(t, "one", one, want)
	want = face{G: small(), Ops: 1}
	want.Wear[0], want.Next[0] = 1, 4
	wantFace(t, "other", other, want)

	var done sync.WaitGroup
	for i := range 8 {
		done.Go(func() {
			for seed := range 5 {
				wander(t, 1000*i+seed, 60)
			}
		})
	}
	done.Wait()
}

package yard_test

import (
	"math"
	"slices"
	"strconv"
	"sync"
	"testing"

	"scullery/api"
	"scullery/yard"
)

// The document's limits, in its own numbers.
const mostBlocks, mostPages = 32, 8

// made answers a yard, and fails, if there is none.
func made(t *testing.T, blocks, pages int) *yard.Yard {
	t.Helper()
	y := yard.New(blocks, pages)
	if y == nil {
		t.Fatalf("New(%d, %d): none", blocks, pages)
	}
	return y
}

// wantCode fails, if an error is none of that code: an *api.Wrong, not wrapped, or nil.
func wantCode(t *testing.T, what string, e error, want api.Errno) {
	t.Helper()
	if want == api.OK {
		if e != nil {
			t.Errorf("%s: %v (%T)", what, e, e)
		}
		return
	}
	if w, ok := e.(*api.Wrong); !ok || w == nil || w.Code != want {
		t.Errorf("%s: %v (%T), not %d", what, e, e, want)
	}
}

// wantNext fails, if Next of a block does not answer this page, or this code with 0 beside it.
func wantNext(t *testing.T, what string, y *yard.Yard, b, want int, code api.Errno) {
	t.Helper()
	n, e := y.Next(b)
	wantCode(t, what+": Next", e, code)
	if n != want {
		t.Errorf("%s: Next(%d): %d, not %d", what, b, n, want)
	}
}

// took takes so many pages of a block, and fails, if that does not go well.
func took(t *testing.T, y *yard.Yard, b, many int) {
	t.Helper()
	for range many {
		_, e := y.Next(b)
		wantCode(t, "Next", e, api.OK)
	}
}

// wantBlock fails, if a block is not of this state, or other pages of it are needed, or others than so many are dirty.
func wantBlock(t *testing.T, what string, y *yard.Yard, b, state, dirty int, needed ...int) {
	t.Helper()
	if got := y.State(b); got != state {
		t.Errorf("%s: State(%d): %d, not %d", what, b, got, state)
	}
	if got := y.Needed(b); !slices.Equal(got, needed) {
		t.Errorf("%s: Needed(%d): %v, not %v", what, b, got, needed)
	}
	if got := y.Dirty(b); got != dirty {
		t.Errorf("%s: Dirty(%d): %d, not %d", what, b, got, dirty)
	}
}

// wantLists fails, if the blocks of the four states are not these, or there are any of another state.
func wantLists(t *testing.T, what string, y *yard.Yard, free, open, sealed, bad []int) {
	t.Helper()
	for i, want := range [][]int{free, open, sealed, bad} {
		if got := y.List(i + 1); !slices.Equal(got, want) {
			t.Errorf("%s: List(%d): %v, not %v", what, i+1, got, want)
		}
	}
	for _, state := range []int{math.MinInt, -4, -1, 0, 5, 6, 1 << 32, 1<<32 + 1, math.MaxInt} {
		if got := y.List(state); len(got) != 0 {
			t.Errorf("%s: List(%d): %v", what, state, got)
		}
	}
}

// upTo are the numbers from 0 to below many.
func upTo(many int) []int {
	var out []int
	for i := range many {
		out = append(out, i)
	}
	return out
}

// The document's example.
func TestExample(t *testing.T) {
	y := made(t, 2, 4)
	wantCode(t, "the example", y.Open(0), api.OK)
	wantNext(t, "the example", y, 0, 0, api.OK)
}

// P11.1: of how many blocks, of how many pages each, there is a yard.
func TestNewByNumbers(t *testing.T) {
	if api.MaxBlocks != mostBlocks || api.MaxPages != mostPages {
		t.Fatal("other limits")
	}
	edges := func(most int) []int {
		return []int{math.MinInt, math.MinInt + 1, -1 << 32, -most, -1, 0, 1, 2, most - 1, most, most + 1, 2 * most, 1 << 20, 1<<32 + 1, math.MaxInt - 1, math.MaxInt}
	}
	for _, blocks := range edges(mostBlocks) {
		for _, pages := range edges(mostPages) {
			want := 1 <= blocks && blocks <= 32 && 1 <= pages && pages <= 8
			if y := yard.New(blocks, pages); (y != nil) != want {
				t.Errorf("New(%d, %d): %v, not %v", blocks, pages, y != nil, want)
			}
		}
	}
	for n := range 100 {
		if y := yard.New(n, 1); (y != nil) != (1 <= n && n <= 32) {
			t.Errorf("%d blocks: %v", n, y != nil)
		}
		if y := yard.New(1, n); (y != nil) != (1 <= n && n <= 8) {
			t.Errorf("%d pages: %v", n, y != nil)
		}
	}
}

// P11.1: a new yard: all blocks are free, no page of them is needed; and each may be opened, and has so many pages.
func TestNewYard(t *testing.T) {
	for blocks := 1; blocks <= mostBlocks; blocks++ {
		for pages := 1; pages <= mostPages; pages++ {
			what := strconv.Itoa(blocks) + " of " + strconv.Itoa(pages)
			y := made(t, blocks, pages)
			wantLists(t, what, y, upTo(blocks), nil, nil, nil)
			for b := range blocks {
				wantBlock(t, what, y, b, api.Free, 0)
				wantCode(t, what, y.Open(b), api.OK)
				for page := range pages {
					wantNext(t, what, y, b, page, api.OK)
				}
				wantNext(t, what, y, b, 0, api.ErrFull)
				wantBlock(t, what, y, b, api.Open, 0)
			}
			wantLists(t, what, y, nil, upTo(blocks), nil, nil)
		}
	}
}

// P11.1: a block's life, many times: free, open, sealed, free again, each time as if it were new.
func TestLife(t *testing.T) {
	y := made(t, 3, 4)
	for life := range 500 {
		what := "life " + strconv.Itoa(life)
		b, many := life%3, 1+life%4
		wantBlock(t, what, y, b, api.Free, 0)
		wantCode(t, what, y.Open(b), api.OK)
		wantBlock(t, what, y, b, api.Open, 0)
		for page := range many {
			wantCode(t, what, y.Need(b, page, true), api.ErrState)
			wantNext(t, what, y, b, page, api.OK)
			wantCode(t, what, y.Need(b, page, page%2 == 0), api.OK)
		}
		if many < 4 {
			wantCode(t, what, y.Need(b, many, true), api.ErrState)
		}
		wantBlock(t, what, y, b, api.Open, (many+1)/2, upTo(many)...)
		wantCode(t, what, y.Seal(b), api.OK)
		wantBlock(t, what, y, b, api.Sealed, (many+1)/2, upTo(many)...)
		for page := range many {
			wantCode(t, what, y.Free(b), api.ErrState)
			wantCode(t, what, y.Drop(b, page), api.OK)
		}
		wantBlock(t, what, y, b, api.Sealed, 0)
		wantCode(t, what, y.Free(b), api.OK)
		wantLists(t, what, y, upTo(3), nil, nil, nil)
	}
}

// brought answers a yard of two blocks of four pages each, the first of which is of a state; of one that is not free three pages are taken, of which page 0 is needed and dirty, and page 2 needed and not dirty.
func brought(t *testing.T, state int) *yard.Yard {
	t.Helper()
	y := made(t, 2, 4)
	if state == api.Free {
		return y
	}
	wantCode(t, "Open", y.Open(0), api.OK)
	took(t, y, 0, 3)
	wantCode(t, "Need", y.Need(0, 0, true), api.OK)
	wantCode(t, "Need", y.Need(0, 2, false), api.OK)
	switch state {
	case api.Sealed:
		wantCode(t, "Seal", y.Seal(0), api.OK)
	case api.Bad:
		wantCode(t, "Retire", y.Retire(0), api.OK)
	}
	return y
}

// P11.1, R5, R6: each call in each state, and what a block is behind it: what it was, if the call answers an error.
func TestEachCallInEachState(t *testing.T) {
	const ok, no, none, invalid = api.OK, api.ErrState, api.ErrNone, api.ErrInvalid
	states := []int{api.Free, api.Open, api.Sealed, api.Bad}
	for _, x := range []struct {
		what string
		do   func(y *yard.Yard) error
		want [4]api.Errno
		then int
	}{
		{"Open", func(y *yard.Yard) error { return y.Open(0) }, [4]api.Errno{ok, no, no, no}, api.Open},
		{"Next", func(y *yard.Yard) error { _, e := y.Next(0); return e }, [4]api.Errno{no, ok, no, no}, api.Open},
		{"Seal", func(y *yard.Yard) error { return y.Seal(0) }, [4]api.Errno{no, ok, no, no}, api.Sealed},
		{"Free", func(y *yard.Yard) error { return y.Free(0) }, [4]api.Errno{no, no, no, no}, 0},
		{"Retire", func(y *yard.Yard) error { return y.Retire(0) }, [4]api.Errno{ok, ok, ok, no}, api.Bad},
		{"Need 0", func(y *yard.Yard) error { return y.Need(0, 0, true) }, [4]api.Errno{no, no, no, no}, 0},
		{"Need 1", func(y *yard.Yard) error { return y.Need(0, 1, true) }, [4]api.Errno{no, ok, ok, ok}, 0},
		{"Need 2", func(y *yard.Yard) error { return y.Need(0, 2, false) }, [4]api.Errno{no, no, no, no}, 0},
		{"Need 3", func(y *yard.Yard) error { return y.Need(0, 3, false) }, [4]api.Errno{no, no, no, no}, 0},
		{"Need 4", func(y *yard.Yard) error { return y.Need(0, 4, false) }, [4]api.Errno{invalid, invalid, invalid, invalid}, 0},
		{"Drop 0", func(y *yard.Yard) error { return y.Drop(0, 0) }, [4]api.Errno{none, ok, ok, ok}, 0},
		{"Drop 1", func(y *yard.Yard) error { return y.Drop(0, 1) }, [4]api.Errno{none, none, none, none}, 0},
		{"Drop 3", func(y *yard.Yard) error { return y.Drop(0, 3) }, [4]api.Errno{none, none, none, none}, 0},
		{"Drop 4", func(y *yard.Yard) error { return y.Drop(0, 4) }, [4]api.Errno{invalid, invalid, invalid, invalid}, 0},
		{"Wash 0", func(y *yard.Yard) error { return y.Wash(0, 0) }, [4]api.Errno{none, ok, ok, ok}, 0},
		{"Wash 1", func(y *yard.Yard) error { return y.Wash(0, 1) }, [4]api.Errno{none, none, none, none}, 0},
		{"Wash 2", func(y *yard.Yard) error { return y.Wash(0, 2) }, [4]api.Errno{none, ok, ok, ok}, 0},
		{"Wash -1", func(y *yard.Yard) error { return y.Wash(0, -1) }, [4]api.Errno{invalid, invalid, invalid, invalid}, 0},
	} {
		for i, state := range states {
			y := brought(t, state)
			what := x.what + " in state " + strconv.Itoa(state)
			wantCode(t, what, x.do(y), x.want[i])
			if x.want[i] == ok && x.then != 0 {
				state = x.then
			}
			if y.State(0) != state || y.State(1) != api.Free {
				t.Errorf("%s: %d, %d", what, y.State(0), y.State(1))
			}
			if x.want[i] != ok && states[i] != api.Free {
				wantBlock(t, what, y, 0, state, 1, 0, 2)
			}
		}
	}
}

// P11.1: of no block each call that answers an error answers ErrInvalid, whatever page is named, and the others zeros; nothing changes.
func TestNoBlock(t *testing.T) {
	for _, blocks := range []int{1, 2, 7, mostBlocks} {
		y := made(t, blocks, 4)
		wantCode(t, "Open", y.Open(0), api.OK)
		took(t, y, 0, 2)
		wantCode(t, "Need", y.Need(0, 1, true), api.OK)
		for _, b := range []int{math.MinInt, math.MinInt + 1, -1 << 32, -blocks, -1, blocks, blocks + 1, 1 << 8, 1 << 32, math.MaxInt - 1, math.MaxInt} {
			what := "block " + strconv.Itoa(b) + " of " + strconv.Itoa(blocks)
			wantNext(t, what, y, b, 0, api.ErrInvalid)
			for _, e := range []error{y.Open(b), y.Seal(b), y.Free(b), y.Retire(b)} {
				wantCode(t, what, e, api.ErrInvalid)
			}
			for _, page := range []int{-1, 0, 1, 3, 4} {
				for _, e := range []error{y.Need(b, page, true), y.Drop(b, page), y.Wash(b, page)} {
					wantCode(t, what, e, api.ErrInvalid)
				}
			}
			wantBlock(t, what, y, b, 0, 0)
		}
		wantBlock(t, "behind", y, 0, api.Open, 1, 1)
		wantLists(t, "behind", y, upTo(blocks)[1:], []int{0}, nil, nil)
		last := blocks - 1
		wantCode(t, "the last block", y.Retire(last), api.OK)
		wantBlock(t, "the last block", y, last, api.Bad, y.Dirty(last), y.Needed(last)...)
	}
}

// P11.1, R6: of no page Need, Drop and Wash answer ErrInvalid, whatever the block's state.
func TestNoPage(t *testing.T) {
	for _, state := range []int{api.Free, api.Open, api.Sealed, api.Bad} {
		for _, pages := range []int{1, 3, mostPages} {
			y := made(t, 2, pages)
			needed := []int(nil)
			if state != api.Free {
				wantCode(t, "Open", y.Open(1), api.OK)
				took(t, y, 1, pages)
				wantCode(t, "Need", y.Need(1, pages-1, true), api.OK)
				needed = []int{pages - 1}
			}
			switch state {
			case api.Sealed:
				wantCode(t, "Seal", y.Seal(1), api.OK)
			case api.Bad:
				wantCode(t, "Retire", y.Retire(1), api.OK)
			}
			for _, page := range []int{math.MinInt, -1 << 32, -pages, -1, pages, pages + 1, mostPages + 1, 1 << 32, math.MaxInt} {
				what := "page " + strconv.Itoa(page) + " of " + strconv.Itoa(pages) + " in state " + strconv.Itoa(state)
				for _, e := range []error{y.Need(1, page, true), y.Need(1, page, false), y.Drop(1, page), y.Wash(1, page)} {
					wantCode(t, what, e, api.ErrInvalid)
				}
				wantBlock(t, what, y, 1, state, len(needed), needed...)
			}
		}
	}
}

// P11.1: of a block of which all pages are taken Next answers ErrFull, as often as it is asked; the block stays open, and may be sealed.
func TestFull(t *testing.T) {
	for pages := 1; pages <= mostPages; pages++ {
		y := made(t, 2, pages)
		wantCode(t, "Open", y.Open(1), api.OK)
		for page := range pages {
			wantNext(t, "not full", y, 1, page, api.OK)
		}
		for range 20 {
			wantNext(t, "full", y, 1, 0, api.ErrFull)
			wantBlock(t, "full", y, 1, api.Open, 0)
		}
		for page := range pages {
			wantCode(t, "Need", y.Need(1, page, true), api.OK)
		}
		wantCode(t, "Need of none", y.Need(1, pages, true), api.ErrInvalid)
		wantNext(t, "full, and needed", y, 1, 0, api.ErrFull)
		wantCode(t, "Seal", y.Seal(1), api.OK)
		wantNext(t, "sealed, and full", y, 1, 0, api.ErrState)
		wantBlock(t, "sealed", y, 1, api.Sealed, pages, upTo(pages)...)
	}
}

// P11.1: an open block may be freed as well as a sealed one, whether pages of it were taken or not, as long as none is needed.
func TestFree(t *testing.T) {
	for taken := range 4 {
		for _, sealed := range []bool{false, true} {
			y := made(t, 1, 3)
			wantCode(t, "Open", y.Open(0), api.OK)
			took(t, y, 0, taken)
			state := api.Open
			if sealed {
				wantCode(t, "Seal", y.Seal(0), api.OK)
				state = api.Sealed
			}
			for page := range taken {
				wantCode(t, "Need", y.Need(0, page, page == 1), api.OK)
				wantCode(t, "Free of one that is needed", y.Free(0), api.ErrState)
				wantBlock(t, "Free of one that is needed", y, 0, state, page%2, page)
				wantCode(t, "Drop", y.Drop(0, page), api.OK)
			}
			wantCode(t, "Free", y.Free(0), api.OK)
			wantBlock(t, "Free", y, 0, api.Free, 0)
			wantCode(t, "Free of a free one", y.Free(0), api.ErrState)
			wantLists(t, "Free", y, []int{0}, nil, nil, nil)
		}
	}
}

// P11.1: a block that is opened again has taken no page.
func TestOpenedAgain(t *testing.T) {
	for _, sealed := range []bool{false, true} {
		y := made(t, 1, 3)
		wantCode(t, "Open", y.Open(0), api.OK)
		took(t, y, 0, 3)
		if sealed {
			wantCode(t, "Seal", y.Seal(0), api.OK)
		}
		wantCode(t, "Free", y.Free(0), api.OK)
		for page := range 3 {
			wantCode(t, "Need in a free one", y.Need(0, page, true), api.ErrState)
		}
		wantCode(t, "Open", y.Open(0), api.OK)
		for page := range 3 {
			wantCode(t, "Need in one opened again", y.Need(0, page, true), api.ErrState)
		}
		wantNext(t, "opened again", y, 0, 0, api.OK)
		wantCode(t, "Need", y.Need(0, 0, false), api.OK)
		wantCode(t, "Need", y.Need(0, 1, false), api.ErrState)
		wantBlock(t, "opened again", y, 0, api.Open, 0, 0)
		wantCode(t, "Seal", y.Seal(0), api.OK)
		wantCode(t, "Need in a sealed one", y.Need(0, 1, false), api.ErrState)
	}
}

// P11.1: a block that becomes bad: what is needed stays so, may be dropped and washed; what was taken may be needed again, and nothing else.
func TestRetire(t *testing.T) {
	for _, sealed := range []bool{false, true} {
		y := made(t, 3, 4)
		wantCode(t, "Open", y.Open(1), api.OK)
		took(t, y, 1, 3)
		wantCode(t, "Need", y.Need(1, 0, true), api.OK)
		wantCode(t, "Need", y.Need(1, 2, true), api.OK)
		state := api.Open
		if sealed {
			wantCode(t, "Seal", y.Seal(1), api.OK)
			state = api.Sealed
		}
		wantBlock(t, "not bad", y, 1, state, 2, 0, 2)
		wantCode(t, "Retire", y.Retire(1), api.OK)
		wantBlock(t, "bad", y, 1, api.Bad, 2, 0, 2)
		wantCode(t, "Retire again", y.Retire(1), api.ErrState)
		wantLists(t, "bad", y, []int{0, 2}, nil, nil, []int{1})
		wantCode(t, "Wash", y.Wash(1, 0), api.OK)
		wantBlock(t, "washed", y, 1, api.Bad, 1, 0, 2)
		wantCode(t, "Drop", y.Drop(1, 0), api.OK)
		wantBlock(t, "dropped", y, 1, api.Bad, 1, 2)
		wantCode(t, "Drop again", y.Drop(1, 0), api.ErrNone)
		wantCode(t, "Need again", y.Need(1, 0, true), api.OK)
		wantCode(t, "Need one that was taken", y.Need(1, 1, false), api.OK)
		wantCode(t, "Need one that was not", y.Need(1, 3, true), api.ErrState)
		wantBlock(t, "needed again", y, 1, api.Bad, 2, 0, 1, 2)
		for page := range 3 {
			wantCode(t, "Drop", y.Drop(1, page), api.OK)
		}
		wantBlock(t, "all dropped", y, 1, api.Bad, 0)
		wantCode(t, "Free of a bad one", y.Free(1), api.ErrState)
		wantCode(t, "Open of a bad one", y.Open(1), api.ErrState)
		wantNext(t, "bad", y, 1, 0, api.ErrState)
		wantCode(t, "Seal of a bad one", y.Seal(1), api.ErrState)
	}
}

// P11.1: of a block that was free when it became bad no page is taken, even if it was open, or sealed, ahead of that.
func TestRetireOfFree(t *testing.T) {
	for lives := range 3 {
		y := made(t, 2, 2)
		for range lives {
			wantCode(t, "Open", y.Open(0), api.OK)
			took(t, y, 0, 2)
			wantCode(t, "Seal", y.Seal(0), api.OK)
			wantCode(t, "Free", y.Free(0), api.OK)
		}
		wantCode(t, "Retire", y.Retire(0), api.OK)
		wantBlock(t, "bad", y, 0, api.Bad, 0)
		for page := range 2 {
			wantCode(t, "Need", y.Need(0, page, true), api.ErrState)
			wantCode(t, "Drop", y.Drop(0, page), api.ErrNone)
			wantCode(t, "Wash", y.Wash(0, page), api.ErrNone)
		}
		wantBlock(t, "bad", y, 0, api.Bad, 0)
	}
}

// P11.1: what is needed, and is dirty: Need of a needed page changes nothing, Wash of one that is not dirty is well, Drop of a dirty one leaves nothing.
func TestDirty(t *testing.T) {
	y := made(t, 1, 4)
	wantCode(t, "Open", y.Open(0), api.OK)
	took(t, y, 0, 4)
	wantCode(t, "Need", y.Need(0, 3, true), api.OK)
	wantCode(t, "Need", y.Need(0, 1, false), api.OK)
	wantBlock(t, "needed", y, 0, api.Open, 1, 1, 3)
	for _, page := range []int{1, 3} {
		for _, dirty := range []bool{true, false} {
			wantCode(t, "Need of a needed one", y.Need(0, page, dirty), api.ErrState)
			wantBlock(t, "Need of a needed one", y, 0, api.Open, 1, 1, 3)
		}
	}
	wantCode(t, "Wash of one that is not dirty", y.Wash(0, 1), api.OK)
	wantBlock(t, "washed", y, 0, api.Open, 1, 1, 3)
	wantCode(t, "Drop of a dirty one", y.Drop(0, 3), api.OK)
	wantBlock(t, "dropped", y, 0, api.Open, 0, 1)
	wantCode(t, "Wash of one that was dropped", y.Wash(0, 3), api.ErrNone)
	wantCode(t, "Need again, not dirty", y.Need(0, 3, false), api.OK)
	wantBlock(t, "needed again", y, 0, api.Open, 0, 1, 3)
	wantCode(t, "Drop", y.Drop(0, 3), api.OK)
	wantCode(t, "Need again, dirty", y.Need(0, 3, true), api.OK)
	wantBlock(t, "needed again", y, 0, api.Open, 1, 1, 3)
	for range 3 {
		wantCode(t, "Wash", y.Wash(0, 3), api.OK)
		wantBlock(t, "washed", y, 0, api.Open, 0, 1, 3)
	}
}

// P11.1: the pages that are needed are told rising, in whatever order it was said.
func TestNeededRising(t *testing.T) {
	for _, order := range [][]int{{0, 1, 2, 3, 4, 5, 6, 7}, {7, 6, 5, 4, 3, 2, 1, 0}, {3, 7, 0, 5, 1, 6, 2, 4}} {
		y := made(t, 1, mostPages)
		wantCode(t, "Open", y.Open(0), api.OK)
		took(t, y, 0, mostPages)
		var needed []int
		dirty := 0
		for i, page := range order {
			wantCode(t, "Need", y.Need(0, page, i%3 == 0), api.OK)
			needed = append(needed, page)
			if i%3 == 0 {
				dirty++
			}
			wantBlock(t, "rising", y, 0, api.Open, dirty, slices.Sorted(slices.Values(needed))...)
		}
	}
}

// P11.1: the blocks of each state, rising: each in one list alone.
func TestLists(t *testing.T) {
	y := made(t, mostBlocks, 1)
	var lists [4][]int
	for b := mostBlocks - 1; b >= 0; b-- {
		to := (b*7 + b/4) % 4
		if to == 1 || to == 2 {
			wantCode(t, "Open", y.Open(b), api.OK)
		}
		if to == 2 {
			wantCode(t, "Seal", y.Seal(b), api.OK)
		}
		if to == 3 {
			wantCode(t, "Retire", y.Retire(b), api.OK)
		}
	}
	for b := range mostBlocks {
		to := (b*7 + b/4) % 4
		lists[to] = append(lists[to], b)
	}
	wantLists(t, "all states", y, lists[0], lists[1], lists[2], lists[3])
	for _, list := range lists {
		if len(list) < 4 {
			t.Errorf("too few to tell: %v", lists)
		}
	}
}

// R3: methods of a nil pointer.
func TestNil(t *testing.T) {
	var y *yard.Yard
	for _, b := range []int{-1, 0, 1, math.MaxInt} {
		wantNext(t, "nil", y, b, 0, api.ErrNil)
		for _, e := range []error{y.Open(b), y.Seal(b), y.Free(b), y.Retire(b), y.Need(b, 0, true), y.Need(b, -1, false), y.Drop(b, 0), y.Drop(b, 9), y.Wash(b, 0), y.Wash(b, 9)} {
			wantCode(t, "nil", e, api.ErrNil)
		}
		wantBlock(t, "nil", y, b, 0, 0)
	}
	wantLists(t, "nil", y, nil, nil, nil, nil)
}

// overwrite writes over a list, and over what lies behind it.
func overwrite(list []int) {
	list = list[:cap(list)]
	for i := range list {
		list[i] = -7
	}
}

// R4: what Needed and List answer is nobody else's.
func TestOwnMemory(t *testing.T) {
	y := made(t, 6, 5)
	for _, b := range []int{1, 2, 4} {
		wantCode(t, "Open", y.Open(b), api.OK)
		took(t, y, b, 5)
		for _, page := range []int{0, 2, 3} {
			wantCode(t, "Need", y.Need(b, page, page != 2), api.OK)
		}
	}
	for range 3 {
		first, second, lists, other := y.Needed(1), y.Needed(1), y.List(api.Open), y.List(api.Open)
		overwrite(first)
		overwrite(lists)
		if !slices.Equal(second, []int{0, 2, 3}) || !slices.Equal(other, []int{1, 2, 4}) {
			t.Errorf("written over: %v, %v", second, other)
		}
		overwrite(y.List(api.Free))
		overwrite(y.Needed(0))
		for _, b := range []int{1, 2, 4} {
			wantBlock(t, "written over", y, b, api.Open, 2, 0, 2, 3)
		}
		wantLists(t, "written over", y, []int{0, 3, 5}, []int{1, 2, 4}, nil, nil)
	}
	wantCode(t, "Drop", y.Drop(1, 2), api.OK)
	before := y.Needed(1)
	wantCode(t, "Drop", y.Drop(1, 0), api.OK)
	if !slices.Equal(before, []int{0, 3}) {
		t.Errorf("an answer changed: %v", before)
	}
}

// R5: two yards, and two blocks of one, do not mind one another.
func TestApart(t *testing.T) {
	one, two := made(t, 2, 3), made(t, 2, 3)
	wantCode(t, "Open", one.Open(0), api.OK)
	took(t, one, 0, 2)
	wantCode(t, "Need", one.Need(0, 1, true), api.OK)
	wantCode(t, "Retire", one.Retire(1), api.OK)
	wantLists(t, "the other yard", two, []int{0, 1}, nil, nil, nil)
	wantBlock(t, "the other yard", two, 0, api.Free, 0)
	wantCode(t, "Open", two.Open(0), api.OK)
	wantCode(t, "Open", two.Open(1), api.OK)
	wantNext(t, "the other yard", two, 0, 0, api.OK)
	wantNext(t, "the other block", two, 1, 0, api.OK)
	wantNext(t, "the other block", two, 1, 1, api.OK)
	wantCode(t, "Need", two.Need(1, 1, false), api.OK)
	wantBlock(t, "the other block", two, 0, api.Open, 0)
	wantBlock(t, "the one yard", one, 0, api.Open, 1, 1)
	wantNext(t, "the one yard", one, 0, 2, api.OK)
	wantLists(t, "the one yard", one, nil, []int{0}, nil, []int{1})
}

// R5: yards may be made, and each be worked on, from several goroutines at one time.
func TestAtOneTime(t *testing.T) {
	var all sync.WaitGroup
	for n := range 8 {
		all.Add(1)
		go func() {
			defer all.Done()
			for seed := range 20 {
				wander(t, n*1000+seed, 60)
			}
		}()
	}
	all.Wait()
}

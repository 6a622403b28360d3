package back_test

import (
	"math"
	"slices"
	"strconv"
	"sync"
	"testing"

	"scullery/api"
	"scullery/back"
)

// The document's limit, in its own number, and the greatest address.
const (
	most     = 256
	greatest = math.MaxUint64
)

// made answers a back, and fails, if there is none.
func made(t *testing.T, pages int) *back.Back {
	t.Helper()
	b := back.New(pages)
	if b == nil {
		t.Fatalf("New(%d): none", pages)
	}
	return b
}

// wantCode fails, if an error is none of that code: an *api.Wrong, not wrapped, or nil.
func wantCode(t *testing.T, what string, e error, want api.Errno) {
	t.Helper()
	if want == api.OK {
		if e != nil {
			t.Errorf("%s: %v (%T)", what, e, e)
		}
		return
	}
	if w, ok := e.(*api.Wrong); !ok || w == nil || w.Code != want {
		t.Errorf("%s: %v (%T), not %d", what, e, e, want)
	}
}

// wantOf fails, if a page is not that address's, or not nobody's.
func wantOf(t *testing.T, what string, b *back.Back, page int, addr uint64, is bool) {
	t.Helper()
	if gotAddr, gotIs := b.Of(page); gotAddr != addr || gotIs != is {
		t.Errorf("%s: Of(%d): %d, %t, not %d, %t", what, page, gotAddr, gotIs, addr, is)
	}
}

// wantPages fails, if others than these pages are somebody's, or they are told otherwise.
func wantPages(t *testing.T, what string, b *back.Back, pages ...int) {
	t.Helper()
	if got := b.Pages(); !slices.Equal(got, pages) {
		t.Errorf("%s: Pages: %v, not %v", what, got, pages)
	}
}

// wantRange fails, if Range tells others than these addresses, or in another order.
func wantRange(t *testing.T, what string, b *back.Back, from, to int, addrs ...uint64) {
	t.Helper()
	if got := b.Range(from, to); !slices.Equal(got, addrs) {
		t.Errorf("%s: Range(%d, %d): %v, not %v", what, from, to, got, addrs)
	}
}

// set makes a page an address's, and fails, if that does not go well.
func set(t *testing.T, b *back.Back, page int, addr uint64) {
	t.Helper()
	wantCode(t, "Set("+strconv.Itoa(page)+")", b.Set(page, addr), api.OK)
}

// cleared makes a page nobody's, and fails, if that does not go well.
func cleared(t *testing.T, b *back.Back, page int) {
	t.Helper()
	wantCode(t, "Clear("+strconv.Itoa(page)+")", b.Clear(page), api.OK)
}

// owned answers whose a page is, where all are somebody's: by turns 0, the greatest address, and the one ahead of it.
func owned(page int) uint64 {
	return greatest * uint64(page%3)
}

// full answers a back all of whose pages are somebody's.
func full(t *testing.T, pages int) *back.Back {
	t.Helper()
	b := made(t, pages)
	for page := range pages {
		set(t, b, page, owned(page))
	}
	return b
}

// upTo are the numbers from 0 to below many.
func upTo(many int) []int {
	var out []int
	for i := range many {
		out = append(out, i)
	}
	return out
}

// beside are numbers of no page of so many.
func beside(pages int) []int {
	return []int{math.MinInt, math.MinInt + 1, -1 << 32, -pages, -1, pages, pages + 1, most + 1, 1 << 32, 1<<32 + pages - 1, math.MaxInt - 1, math.MaxInt}
}

// The document's example.
func TestExample(t *testing.T) {
	b := made(t, 8)
	wantCode(t, "the example", b.Set(3, 9), api.OK)
	wantOf(t, "the example", b, 3, 9, true)
}

// P14.1: of how many pages there is a back.
func TestNew(t *testing.T) {
	numbers := upTo(3 * most)
	numbers = append(numbers, math.MinInt, math.MinInt+1, math.MinInt+most, -1<<32, -1<<32+1, -most-1, -most, -2, -1, 1<<16+1, 1<<32, 1<<32+1, 1<<40, math.MaxInt-1, math.MaxInt)
	for _, pages := range numbers {
		want := 1 <= pages && pages <= 256
		if b := back.New(pages); (b != nil) != want {
			t.Errorf("New(%d): %t, not %t", pages, b != nil, want)
		}
	}
}

// P14.1: of a new back each page is nobody's, may be cleared by nobody, and may be anybody's; there is none beside them.
func TestNewBack(t *testing.T) {
	for pages := 1; pages <= most; pages++ {
		what := strconv.Itoa(pages) + " pages"
		b := made(t, pages)
		for page := range pages {
			wantOf(t, what, b, page, 0, false)
			wantCode(t, what+": Clear", b.Clear(page), api.ErrNone)
		}
		wantPages(t, what, b)
		wantRange(t, what, b, 0, pages)
		wantRange(t, what, b, math.MinInt, math.MaxInt)
		for page := range pages {
			set(t, b, page, owned(page))
			wantOf(t, what, b, page, owned(page), true)
		}
		wantCode(t, what+": one more", b.Set(pages, 1), api.ErrInvalid)
		wantCode(t, what+": one less", b.Set(-1, 1), api.ErrInvalid)
		wantPages(t, what, b, upTo(pages)...)
	}
}

// P14.1, R2, R5: of no page Set and Clear answer ErrInvalid, and Of nothing; nothing changes, whether the pages are somebody's or not.
func TestNoPage(t *testing.T) {
	for _, pages := range []int{1, 2, 8, 255, most} {
		none, all := made(t, pages), full(t, pages)
		for _, b := range []*back.Back{none, all} {
			for _, page := range beside(pages) {
				for _, addr := range []uint64{0, 1, uint64(pages), greatest} {
					wantCode(t, "Set of no page", b.Set(page, addr), api.ErrInvalid)
				}
				wantCode(t, "Clear of no page", b.Clear(page), api.ErrInvalid)
				wantOf(t, "no page", b, page, 0, false)
			}
		}
		wantPages(t, "none", none)
		wantPages(t, "all", all, upTo(pages)...)
		for page := range pages {
			wantOf(t, "none", none, page, 0, false)
			wantOf(t, "all", all, page, owned(page), true)
		}
	}
}

// P14.1: the first page and the last one are pages like any other.
func TestFirstAndLast(t *testing.T) {
	for _, pages := range []int{1, 2, 8, 255, most} {
		for _, page := range []int{0, pages - 1} {
			b := made(t, pages)
			set(t, b, page, 77)
			wantOf(t, "set", b, page, 77, true)
			wantPages(t, "set", b, page)
			wantRange(t, "set", b, 0, pages, 77)
			wantCode(t, "set again", b.Set(page, 78), api.ErrState)
			cleared(t, b, page)
			wantOf(t, "cleared", b, page, 0, false)
			wantPages(t, "cleared", b)
			wantRange(t, "cleared", b, 0, pages)
			wantCode(t, "cleared again", b.Clear(page), api.ErrNone)
		}
	}
}

// P14.1, R5: Set of a page that is somebody's answers ErrState, by the same address as by another one, as often as it is asked, and its owner stays.
func TestSetOfSomebodys(t *testing.T) {
	addrs := []uint64{0, 1, 9, 1 << 32, 1 << 63, greatest - 1, greatest}
	for _, owner := range addrs {
		b := made(t, 4)
		set(t, b, 2, owner)
		for _, addr := range addrs {
			for range 2 {
				wantCode(t, "Set again", b.Set(2, addr), api.ErrState)
				wantOf(t, "Set again", b, 2, owner, true)
			}
		}
		wantPages(t, "Set again", b, 2)
		wantRange(t, "Set again", b, 0, 4, owner)
	}
}

// P14.1: a page that was cleared may be anybody's again, many times over; Clear of a page that is nobody's answers ErrNone, as often as it is asked.
func TestSetAndClear(t *testing.T) {
	b := made(t, 3)
	set(t, b, 0, 5)
	for life := range 300 {
		addr := uint64(life%4) * (greatest / 3)
		set(t, b, 1, addr)
		wantOf(t, "set", b, 1, addr, true)
		wantCode(t, "set", b.Set(1, addr), api.ErrState)
		wantPages(t, "set", b, 0, 1)
		wantRange(t, "set", b, 0, 3, 5, addr)
		cleared(t, b, 1)
		for range 2 {
			wantCode(t, "Clear again", b.Clear(1), api.ErrNone)
			wantOf(t, "Clear again", b, 1, 0, false)
		}
		wantPages(t, "cleared", b, 0)
		wantRange(t, "cleared", b, 0, 3, 5)
		wantOf(t, "the page beside it", b, 0, 5, true)
	}
}

// P14.1: many pages may be one address's, whatever that is; to clear one of them leaves it the others.
func TestOneAddress(t *testing.T) {
	for _, addr := range []uint64{0, 1, 1 << 40, greatest} {
		b := made(t, 8)
		for page := range 8 {
			set(t, b, page, addr)
		}
		wantPages(t, "one address", b, upTo(8)...)
		wantRange(t, "one address", b, 0, 8, slices.Repeat([]uint64{addr}, 8)...)
		cleared(t, b, 0)
		cleared(t, b, 5)
		wantPages(t, "but two", b, 1, 2, 3, 4, 6, 7)
		wantRange(t, "but two", b, 0, 8, slices.Repeat([]uint64{addr}, 6)...)
		for page := range 8 {
			if page == 0 || page == 5 {
				wantOf(t, "but two", b, page, 0, false)
			} else {
				wantOf(t, "but two", b, page, addr, true)
			}
		}
	}
}

// P14.1: each bit of an address counts: it is told as it was set.
func TestAddresses(t *testing.T) {
	b := made(t, 128)
	var addrs []uint64
	for bit := range 64 {
		addrs = append(addrs, 1<<bit, ^uint64(1<<bit))
	}
	for page, addr := range addrs {
		set(t, b, page, addr)
	}
	for page, addr := range addrs {
		wantOf(t, "bits", b, page, addr, true)
	}
	wantRange(t, "bits", b, 0, 128, addrs...)
}

// P14.1, R6: what each error is, where two might do: of no page ErrInvalid stands ahead of the others, and nil ahead of all.
func TestWhichError(t *testing.T) {
	one, none := full(t, 1), made(t, 1)
	for _, page := range beside(1) {
		wantCode(t, "Set beside somebody's", one.Set(page, owned(0)), api.ErrInvalid)
		wantCode(t, "Clear beside somebody's", one.Clear(page), api.ErrInvalid)
		wantCode(t, "Set beside nobody's", none.Set(page, 0), api.ErrInvalid)
		wantCode(t, "Clear beside nobody's", none.Clear(page), api.ErrInvalid)
	}
	wantCode(t, "Set of somebody's", one.Set(0, owned(0)), api.ErrState)
	wantCode(t, "Clear of nobody's", none.Clear(0), api.ErrNone)
}

// P14.1: Pages tells each page that is somebody's once, rising, in whatever order they were set, and none that was cleared.
func TestPagesRising(t *testing.T) {
	for _, pages := range []int{1, 2, 9, 97, most} {
		rising := upTo(pages)
		falling := slices.Clone(rising)
		slices.Reverse(falling)
		mixed := slices.Clone(rising)
		roll := rolls(3)
		for i := range mixed {
			j := roll(i + 1)
			mixed[i], mixed[j] = mixed[j], mixed[i]
		}
		for _, order := range [][]int{rising, falling, mixed} {
			b := made(t, pages)
			for i, page := range order {
				set(t, b, page, owned(page))
				if i == 0 || i == pages/2 {
					wantPages(t, "some", b, slices.Sorted(slices.Values(order[:i+1]))...)
				}
			}
			wantPages(t, "all", b, rising...)
			var left []int
			for _, page := range order {
				if page%3 == 1 {
					cleared(t, b, page)
				} else {
					left = append(left, page)
				}
			}
			wantPages(t, "but a third", b, slices.Sorted(slices.Values(left))...)
			for _, page := range left {
				cleared(t, b, page)
			}
			wantPages(t, "none", b)
		}
	}
}

// P14.1: Range by hand: over all, over parts, with pages that are nobody's among them, with ends outside of the pages, from behind to, and both alike.
func TestRange(t *testing.T) {
	b := made(t, 8)
	set(t, b, 7, greatest)
	set(t, b, 3, 9)
	set(t, b, 5, 4)
	set(t, b, 0, 0)
	all := []uint64{0, 9, 4, greatest}
	for _, x := range []struct {
		from, to int
		want     []uint64
	}{
		{0, 8, all},
		{-1, 8, all},
		{0, 9, all},
		{-9, 99, all},
		{math.MinInt, math.MaxInt, all},
		{math.MinInt, 8, all},
		{0, math.MaxInt, all},
		{math.MinInt, 1, all[:1]},
		{7, math.MaxInt, all[3:]},
		{0, 1, all[:1]},
		{0, 3, all[:1]},
		{0, 4, all[:2]},
		{1, 3, nil},
		{1, 4, all[1:2]},
		{3, 4, all[1:2]},
		{3, 5, all[1:2]},
		{3, 6, all[1:3]},
		{4, 8, all[2:]},
		{5, 7, all[2:3]},
		{6, 7, nil},
		{7, 8, all[3:]},
		{8, 8, nil},
		{8, 9, nil},
		{8, math.MaxInt, nil},
		{math.MinInt, 0, nil},
		{math.MinInt, -1, nil},
		{-3, -1, nil},
		{0, 0, nil},
		{3, 3, nil},
		{7, 7, nil},
		{5, 3, nil},
		{8, 0, nil},
		{99, -9, nil},
		{3, math.MinInt, nil},
		{math.MaxInt, 3, nil},
		{math.MaxInt, math.MinInt, nil},
		{math.MaxInt, math.MaxInt, nil},
		{math.MinInt, math.MinInt, nil},
		{math.MaxInt - 1, math.MaxInt, nil},
		{math.MinInt, math.MinInt + 1, nil},
	} {
		wantRange(t, "by hand", b, x.from, x.to, x.want...)
	}
}

// P14.1: parts of one back that lie side by side make the whole, wherever it is cut.
func TestRangesSideBySide(t *testing.T) {
	for _, pages := range []int{1, 2, 8, 61, most} {
		b := full(t, pages)
		for page := 2; page < pages; page += 5 {
			cleared(t, b, page)
		}
		var whole []uint64
		for page := range pages {
			if page%5 != 2 {
				whole = append(whole, owned(page))
			}
		}
		wantRange(t, "whole", b, 0, pages, whole...)
		for cut := -1; cut <= pages+1; cut++ {
			if got := slices.Concat(b.Range(-1, cut), b.Range(cut, pages+1)); !slices.Equal(got, whole) {
				t.Errorf("cut at %d of %d: %v, not %v", cut, pages, got, whole)
			}
		}
		for wide := 1; wide <= pages; wide++ {
			var got []uint64
			for from := 0; from < pages; from += wide {
				got = append(got, b.Range(from, from+wide)...)
			}
			if !slices.Equal(got, whole) {
				t.Errorf("by %d of %d: %v, not %v", wide, pages, got, whole)
			}
		}
	}
}

// R3: methods of a nil pointer.
func TestNil(t *testing.T) {
	var b *back.Back
	for _, page := range []int{math.MinInt, -1, 0, 1, most, math.MaxInt} {
		wantCode(t, "nil: Set", b.Set(page, 0), api.ErrNil)
		wantCode(t, "nil: Set", b.Set(page, greatest), api.ErrNil)
		wantCode(t, "nil: Clear", b.Clear(page), api.ErrNil)
		wantOf(t, "nil", b, page, 0, false)
		wantRange(t, "nil", b, page, math.MaxInt)
		wantRange(t, "nil", b, 0, page)
	}
	wantPages(t, "nil", b)
}

// overwrite writes over a list, and over what lies behind it.
func overwrite[T int | uint64](list []T) {
	list = list[:cap(list)]
	for i := range list {
		list[i] = 7777
	}
}

// R4: what Pages and Range answer is neither the back's own nor another answer's.
func TestOwnMemory(t *testing.T) {
	for _, pages := range []int{1, 3, 100, most} {
		b := full(t, pages)
		var owners []uint64
		for page := range pages {
			owners = append(owners, owned(page))
		}
		for range 3 {
			first, second := b.Pages(), b.Pages()
			whole, again, part, front := b.Range(0, pages), b.Range(0, pages), b.Range(1, pages), b.Range(0, pages-1)
			overwrite(first)
			overwrite(whole)
			overwrite(front)
			if !slices.Equal(second, upTo(pages)) || !slices.Equal(again, owners) || !slices.Equal(part, owners[1:]) {
				t.Errorf("written over: %v, %v, %v", second, again, part)
			}
			overwrite(second)
			overwrite(again)
			overwrite(part)
			wantPages(t, "written over", b, upTo(pages)...)
			wantRange(t, "written over", b, 0, pages, owners...)
			for page, owner := range owners {
				wantOf(t, "written over", b, page, owner, true)
			}
		}
	}
}

// R4: an answer stays as it is, whatever is set and cleared behind it.
func TestAnswersStay(t *testing.T) {
	b := made(t, 6)
	set(t, b, 1, 11)
	set(t, b, 4, 44)
	pages, whole, part := b.Pages(), b.Range(0, 6), b.Range(2, 6)
	cleared(t, b, 4)
	set(t, b, 4, 45)
	cleared(t, b, 1)
	set(t, b, 0, 1)
	if !slices.Equal(pages, []int{1, 4}) || !slices.Equal(whole, []uint64{11, 44}) || !slices.Equal(part, []uint64{44}) {
		t.Errorf("answers changed: %v, %v, %v", pages, whole, part)
	}
	wantPages(t, "behind", b, 0, 4)
	wantRange(t, "behind", b, 0, 6, 1, 45)
}

// R5: two backs do not mind one another.
func TestTwo(t *testing.T) {
	one, two := made(t, 4), made(t, 4)
	set(t, one, 2, 9)
	wantOf(t, "the other one", two, 2, 0, false)
	wantPages(t, "the other one", two)
	wantCode(t, "the other one", two.Clear(2), api.ErrNone)
	set(t, two, 2, 8)
	set(t, two, 3, 7)
	wantOf(t, "the one", one, 2, 9, true)
	wantRange(t, "the one", one, 0, 4, 9)
	cleared(t, one, 2)
	wantOf(t, "the other one", two, 2, 8, true)
	wantPages(t, "the other one", two, 2, 3)
	wantRange(t, "the one", one, 0, 4)
}

// R5: what is asked, and what went wrong, changes no later answer: the same calls answer the same.
func TestSameCallsAnswerTheSame(t *testing.T) {
	quiet, asked := made(t, 9), made(t, 9)
	roll := rolls(11)
	for range 400 {
		page, addr, clears := roll(9), uint64(roll(3)), roll(2) == 0
		for range 3 {
			asked.Set(-1, addr)
			asked.Clear(9)
			asked.Of(roll(12) - 1)
			overwrite(asked.Pages())
			overwrite(asked.Range(roll(9), roll(12)))
			if _, is := asked.Of(page); is {
				asked.Set(page, addr+1)
			} else {
				asked.Clear(page)
			}
		}
		do := func(b *back.Back) error {
			if clears {
				return b.Clear(page)
			}
			return b.Set(page, addr)
		}
		wantCode(t, "the same", do(asked), api.Code(do(quiet)))
		wantPages(t, "the same", asked, quiet.Pages()...)
		wantRange(t, "the same", asked, 0, 9, quiet.Range(0, 9)...)
	}
}

// R5: backs may be made, and each be worked on, from several goroutines at one time.
func TestAtOneTime(t *testing.T) {
	var all sync.WaitGroup
	for n := range 8 {
		all.Add(1)
		go func() {
			defer all.Done()
			b := back.New(most)
			for page := range most {
				wantCode(t, "at one time", b.Set(page, uint64(n)), api.OK)
			}
			wantPages(t, "at one time", b, upTo(most)...)
			wantRange(t, "at one time", b, 0, most, slices.Repeat([]uint64{uint64(n)}, most)...)
		}()
	}
	all.Wait()
}

package victim_test

import (
	"cmp"
	"math"
	"slices"
	"sync"
	"testing"

	"scullery/victim"
)

// most is the document's greatest number of a block that counts.
const most = 1 << 30

// block is short for what the tests are about.
type block = victim.Block

// want fails, if Order tells others than these IDs, or in another order, or Choose another one than the first of them.
func want(t *testing.T, bs []block, ids ...int) {
	t.Helper()
	if got := victim.Order(bs...); !slices.Equal(got, ids) {
		t.Errorf("Order(%v): %v, not %v", bs, got, ids)
	}
	id, is := victim.Choose(bs...)
	if len(ids) == 0 && (id != 0 || is) || len(ids) > 0 && (id != ids[0] || !is) {
		t.Errorf("Choose(%v): %d, %t, not the first of %v", bs, id, is, ids)
	}
}

// wantGain fails, if another number of pages is won.
func wantGain(t *testing.T, pages int, b block, gain int) {
	t.Helper()
	if got := victim.Gain(pages, b); got != gain {
		t.Errorf("Gain(%d, %+v): %d, not %d", pages, b, got, gain)
	}
}

// number is one of a block's.
type number struct {
	name string
	of   func(b *block) *int
}

// numbers are all of a block's.
func numbers() []number {
	return []number{
		{"ID", func(b *block) *int { return &b.ID }},
		{"Clean", func(b *block) *int { return &b.Clean }},
		{"Dirty", func(b *block) *int { return &b.Dirty }},
		{"Other", func(b *block) *int { return &b.Other }},
		{"Wear", func(b *block) *int { return &b.Wear }},
	}
}

// with is a block with another number.
func (n number) with(b block, x int) block {
	*n.of(&b) = x
	return b
}

// beyond are numbers that no block that counts has.
func beyond() []int {
	return []int{
		-1, most + 1, math.MinInt, math.MaxInt,
		-2, -1000, 1 - most, -most, -most - 1, -1 << 32, 1 - 1<<32, math.MinInt + 1,
		most + 2, 1<<31 - 1, 1 << 31, 1<<32 - 1, 1 << 32, 1<<32 + 3, 1 << 62, math.MaxInt - 1,
	}
}

// within are numbers that a block that counts may have.
func within() []int {
	return []int{0, 1, 2, 3, 4, 5, 7, 8, 9, 63, 64, 127, 128, 255, 256, 1 << 16, 1<<16 + 1, 1<<24 - 1, 1 << 29, most - 2, most - 1, most}
}

// isCounted tells whether a block counts, as the document words it.
func isCounted(b block) bool {
	return 0 <= b.ID && b.ID <= most && 0 <= b.Clean && b.Clean <= most && 0 <= b.Dirty && b.Dirty <= most && 0 <= b.Other && b.Other <= most && 0 <= b.Wear && b.Wear <= most
}

// isAhead tells whether a block is ahead of another one, as the document words it.
func isAhead(a, b block) bool {
	if a.Dirty != b.Dirty {
		return a.Dirty < b.Dirty
	}
	if a.Clean != b.Clean {
		return a.Clean > b.Clean
	}
	if a.Wear != b.Wear {
		return a.Wear < b.Wear
	}
	return a.ID < b.ID
}

// worded is Order as the document words it, by how many stand ahead of each block.
func worded(bs []block) []int {
	var in []block
	for _, b := range bs {
		if isCounted(b) && b.Other == 0 {
			in = append(in, b)
		}
	}
	out := make([]int, len(in))
	for i, b := range in {
		place := 0
		for j, other := range in {
			if isAhead(other, b) || j < i && !isAhead(b, other) {
				place++
			}
		}
		out[place] = b.ID
	}
	return out
}

// wordedGain is Gain as the document words it.
func wordedGain(pages int, b block) int {
	if pages < 0 || pages > most || !isCounted(b) || b.Other != 0 || b.Dirty >= pages {
		return 0
	}
	return pages - b.Dirty
}

// lists calls f with each list of so many of these.
func lists(of []block, many int, f func(bs []block)) {
	bs := make([]block, many)
	var fill func(at int)
	fill = func(at int) {
		if at == many {
			f(bs)
			return
		}
		for _, b := range of {
			bs[at] = b
			fill(at + 1)
		}
	}
	fill(0)
}

// blocks are all that have these numbers.
func blocks(of ...int) []block {
	out := []block{{}}
	for _, n := range numbers() {
		var more []block
		for _, b := range out {
			for _, x := range of {
				more = append(more, n.with(b, x))
			}
		}
		out = more
	}
	return out
}

// drawn answers numbers that look as if they were drawn, the same each time.
func drawn(from uint64) func(below int) int {
	return func(below int) int {
		from = from*6364136223846793005 + 1442695040888963407
		return int(from >> 33 % uint64(below))
	}
}

// everyOrder calls f with the blocks in each order that they may come in.
func everyOrder(bs []block, f func(bs []block)) {
	bs = slices.Clone(bs)
	var swap func(at int)
	swap = func(at int) {
		if at == len(bs) {
			f(bs)
			return
		}
		for i := at; i < len(bs); i++ {
			bs[at], bs[i] = bs[i], bs[at]
			swap(at + 1)
			bs[at], bs[i] = bs[i], bs[at]
		}
	}
	swap(0)
}

// The document's example, and what the other calls tell of it.
func TestExample(t *testing.T) {
	if id, is := victim.Choose(block{ID: 1, Dirty: 2}, block{ID: 2, Dirty: 1}); id != 2 || !is {
		t.Errorf("Choose: %d, %t", id, is)
	}
	want(t, []block{{ID: 1, Dirty: 2}, {ID: 2, Dirty: 1}}, 2, 1)
	want(t, []block{{ID: 2, Dirty: 1}, {ID: 1, Dirty: 2}}, 2, 1)
	if a, b := victim.Cost(block{ID: 1, Dirty: 2}), victim.Cost(block{ID: 2, Dirty: 1}); a != 2 || b != 1 {
		t.Errorf("Cost: %d, %d", a, b)
	}
	wantGain(t, 4, block{ID: 1, Dirty: 2}, 2)
	wantGain(t, 4, block{ID: 2, Dirty: 1}, 3)
}

// P15.1: of none there is nothing to tell, however none is handed in.
func TestOfNone(t *testing.T) {
	if got := victim.Order(); len(got) != 0 {
		t.Errorf("Order: %v", got)
	}
	if id, is := victim.Choose(); id != 0 || is {
		t.Errorf("Choose: %d, %t", id, is)
	}
	for _, bs := range [][]block{nil, {}, make([]block, 0, 9), []block{{ID: 5}, {ID: 6}}[:0]} {
		want(t, bs)
	}
}

// P15.1: of one block, whatever its numbers are, as long as it counts and has no Other pages.
func TestOfOne(t *testing.T) {
	want(t, []block{{}}, 0)
	want(t, []block{{ID: 3}}, 3)
	want(t, []block{{3, 4, 5, 0, 6}}, 3)
	want(t, []block{{3, 4, 5, 1, 6}})
	want(t, []block{{most, most, most, 0, most}}, most)
	for _, n := range numbers() {
		for _, x := range within() {
			b := n.with(block{ID: 7}, x)
			if b.Other > 0 {
				want(t, []block{b})
				continue
			}
			want(t, []block{b}, b.ID)
		}
	}
}

// P15.1: a block is left out by any number out of its bounds, alone and beside others, wherever it stands.
func TestLeftOut(t *testing.T) {
	others := []block{{ID: 4, Dirty: 2}, {ID: 9, Clean: 3, Dirty: 1}, {ID: 2, Dirty: 2}}
	for _, n := range numbers() {
		for _, x := range beyond() {
			for _, from := range []block{{}, {ID: 6, Clean: 8, Wear: 1}, {6, 1, 1, 0, 1}, {most, most, most, 0, most}, {6, 1, 1, 1, 1}} {
				odd := n.with(from, x)
				want(t, []block{odd})
				want(t, []block{odd, odd})
				for at := range 4 {
					want(t, slices.Insert(slices.Clone(others), at, odd), 9, 2, 4)
				}
				want(t, []block{odd, others[0], odd, others[1], odd, others[2], odd}, 9, 2, 4)
				want(t, []block{odd, {ID: 5, Other: 1}})
				for _, pages := range within() {
					wantGain(t, pages, odd, 0)
				}
			}
		}
	}
}

// P15.1: a block is left out by several such numbers as well.
func TestLeftOutBySeveral(t *testing.T) {
	for _, n := range numbers() {
		for _, m := range numbers() {
			for _, x := range beyond() {
				for _, y := range beyond() {
					odd := m.with(n.with(block{1, 1, 1, 0, 1}, x), y)
					want(t, []block{odd, {ID: 5, Dirty: 9}}, 5)
					wantGain(t, 8, odd, 0)
				}
			}
		}
	}
	for _, x := range beyond() {
		want(t, []block{{x, x, x, x, x}})
		want(t, []block{{x, x, x, 0, x}})
		wantGain(t, 8, block{x, x, x, x, x}, 0)
		wantGain(t, x, block{x, x, x, 0, x}, 0)
	}
}

// P15.1: numbers at their bounds are counted, those one past them are not.
func TestAtTheBounds(t *testing.T) {
	want(t, []block{{ID: most}, {ID: 0}, {ID: most + 1}, {ID: -1}, {ID: most - 1}}, 0, most-1, most)
	want(t, []block{{ID: 1, Clean: 0}, {ID: 2, Clean: most}, {ID: 3, Clean: most + 1}, {ID: 4, Clean: -1}, {ID: 5, Clean: most - 1}}, 2, 5, 1)
	want(t, []block{{ID: 1, Dirty: most}, {ID: 2, Dirty: 0}, {ID: 3, Dirty: most + 1}, {ID: 4, Dirty: -1}, {ID: 5, Dirty: most - 1}}, 2, 5, 1)
	want(t, []block{{ID: 1, Other: most}, {ID: 2, Other: 0}, {ID: 3, Other: most + 1}, {ID: 4, Other: -1}, {ID: 5, Other: 1}}, 2)
	want(t, []block{{ID: 1, Wear: most}, {ID: 2, Wear: 0}, {ID: 3, Wear: most + 1}, {ID: 4, Wear: -1}, {ID: 5, Wear: most - 1}}, 2, 5, 1)
}

// P15.1: a block with Other pages is in no Order, however good it were else, and hinders no other one.
func TestOtherPages(t *testing.T) {
	for _, x := range within()[1:] {
		for at := range 3 {
			kept := block{ID: 0, Clean: most, Other: x}
			want(t, slices.Insert([]block{{ID: 8, Dirty: most, Wear: most}, {ID: 7, Dirty: most, Wear: most}}, at, kept), 7, 8)
		}
		want(t, []block{{ID: 5, Other: x}})
		want(t, []block{{ID: 5, Other: x}, {ID: 6, Dirty: 1, Other: 1}, {ID: 5, Other: x}})
		want(t, []block{{ID: 5, Other: x}, {ID: 5, Dirty: 1}}, 5)
		want(t, []block{{ID: 5, Other: x}, {ID: -1}, {ID: 1, Wear: most + 1}})
	}
}

// P15.1: what Order goes by, each alone, and each ahead of those behind it, in each order that the blocks may come in.
func TestWhatOrderGoesBy(t *testing.T) {
	for _, x := range []struct {
		bs   []block
		want []int
	}{
		// Each alone.
		{[]block{{ID: 1, Dirty: 7}, {ID: 2, Dirty: 3}, {ID: 3, Dirty: 0}, {ID: 4, Dirty: 5}}, []int{3, 2, 4, 1}},
		{[]block{{ID: 1, Clean: 2}, {ID: 2, Clean: 7}, {ID: 3, Clean: 0}, {ID: 4, Clean: 5}}, []int{2, 4, 1, 3}},
		{[]block{{ID: 1, Wear: 7}, {ID: 2, Wear: 3}, {ID: 3, Wear: 0}, {ID: 4, Wear: 5}}, []int{3, 2, 4, 1}},
		{[]block{{ID: 31}, {ID: 0}, {ID: 9}, {ID: 10}, {ID: 100}}, []int{0, 9, 10, 31, 100}},
		// Each against all behind it.
		{[]block{{ID: 9, Dirty: 1, Clean: 0, Wear: 9}, {ID: 1, Dirty: 2, Clean: 9, Wear: 0}}, []int{9, 1}},
		{[]block{{ID: 9, Dirty: 2, Clean: 4, Wear: 9}, {ID: 1, Dirty: 2, Clean: 3, Wear: 0}}, []int{9, 1}},
		{[]block{{ID: 9, Dirty: 2, Clean: 4, Wear: 3}, {ID: 1, Dirty: 2, Clean: 4, Wear: 4}}, []int{9, 1}},
		{[]block{{ID: 1, Dirty: 2, Clean: 4, Wear: 3}, {ID: 9, Dirty: 2, Clean: 4, Wear: 3}}, []int{1, 9}},
		// Alike in all but the next one, and in one more.
		{[]block{{5, 3, 2, 0, 6}, {5, 3, 1, 0, 6}, {4, 3, 3, 0, 6}}, []int{5, 5, 4}},
		{[]block{{5, 3, 2, 0, 6}, {4, 2, 2, 0, 6}, {3, 4, 2, 0, 6}}, []int{3, 5, 4}},
		{[]block{{5, 3, 2, 0, 6}, {4, 3, 2, 0, 7}, {6, 3, 2, 0, 5}}, []int{6, 5, 4}},
		{[]block{{5, 3, 2, 0, 6}, {4, 3, 2, 0, 6}, {6, 3, 2, 0, 6}}, []int{4, 5, 6}},
		// All at once.
		{[]block{{1, 0, 2, 0, 0}, {2, 5, 1, 0, 9}, {3, 5, 1, 0, 8}, {4, 6, 1, 0, 9}, {0, 5, 1, 0, 9}, {6, 8, 8, 1, 0}}, []int{4, 3, 0, 2, 1}},
		// No difference runs over at the ends.
		{[]block{{ID: 1, Dirty: most}, {ID: 2}}, []int{2, 1}},
		{[]block{{ID: 1, Clean: most}, {ID: 2}}, []int{1, 2}},
		{[]block{{ID: 1, Wear: most}, {ID: 2}}, []int{2, 1}},
		{[]block{{ID: most}, {ID: 0}}, []int{0, most}},
		{[]block{{0, 0, most, 0, most}, {most, most, 0, 0, 0}}, []int{most, 0}},
		{[]block{{0, 0, 0, 0, most}, {most, most, most, 0, 0}}, []int{0, most}},
		{[]block{{0, 0, most, 0, 0}, {1, most, most, 0, most}, {2, most - 1, most, 0, 0}}, []int{1, 2, 0}},
		{[]block{{ID: 3, Dirty: most - 1}, {ID: 2, Dirty: most}, {ID: 1, Dirty: most - 2}}, []int{1, 3, 2}},
	} {
		everyOrder(x.bs, func(bs []block) { want(t, bs, x.want...) })
	}
}

// P15.1: what blocks are told that are the same in all, or that stand there twice under one ID: each as often as it came.
func TestBlocksThatAreAlike(t *testing.T) {
	want(t, []block{{}, {}}, 0, 0)
	want(t, []block{{}, {}, {}, {}, {}}, 0, 0, 0, 0, 0)
	want(t, []block{{7, 1, 2, 0, 3}, {7, 1, 2, 0, 3}}, 7, 7)
	want(t, []block{{7, 1, 2, 0, 3}, {6, 1, 2, 0, 3}, {7, 1, 2, 0, 3}}, 6, 7, 7)
	want(t, []block{{7, 1, 2, 0, 3}, {7, 1, 2, 1, 3}, {7, 1, 2, 0, 3}}, 7, 7)
	want(t, []block{{ID: 7, Dirty: 9}, {ID: 8, Dirty: 4}, {ID: 7, Dirty: 1}}, 7, 8, 7)
	want(t, []block{{most, most, most, 0, most}, {most, most, most, 0, most}}, most, most)
	for _, many := range []int{2, 3, 11, 12, 13, 20, 21, 32, 33, 50, 1000} {
		want(t, slices.Repeat([]block{{5, 1, 2, 0, 3}}, many), slices.Repeat([]int{5}, many)...)
	}
}

// P15.1: blocks that come rising, falling and mixed, few and many, going by each of their numbers.
func TestRisingFallingMixed(t *testing.T) {
	for many := range 70 {
		for _, n := range numbers() {
			if n.name == "Other" {
				continue
			}
			var rising []block
			for i := range many {
				// Their IDs fall, unless Order is to go by these: it would be another one, if it went by them.
				rising = append(rising, n.with(block{ID: 100 - i}, 3*i))
			}
			falling := slices.Clone(rising)
			slices.Reverse(falling)
			mixed := make([]block, many)
			for i, b := range rising {
				// No number of blocks here has a factor of 71: each place is taken once.
				mixed[i*71%many] = b
			}
			right := rising
			if n.name == "Clean" {
				right = falling
			}
			var ids []int
			for _, b := range right {
				ids = append(ids, b.ID)
			}
			want(t, rising, ids...)
			want(t, falling, ids...)
			want(t, mixed, ids...)
		}
	}
}

// P15.1: Choose: false of those that are all left out, or have Other pages, and true beside an ID of 0.
func TestChoose(t *testing.T) {
	for _, x := range []struct {
		bs []block
		id int
		is bool
	}{
		{nil, 0, false},
		{[]block{{ID: 4, Other: 1}}, 0, false},
		{[]block{{ID: 4, Other: most}, {ID: 5, Other: 1}}, 0, false},
		{[]block{{ID: -4}}, 0, false},
		{[]block{{ID: 4, Clean: -1}, {ID: 5, Dirty: -1}, {ID: 6, Other: -1}, {ID: 7, Wear: -1}, {ID: -1}}, 0, false},
		{[]block{{ID: 4, Clean: most + 1}, {ID: 5, Other: 2}}, 0, false},
		{[]block{{ID: 0}}, 0, true},
		{[]block{{ID: 4, Other: 1}, {ID: 0, Dirty: 9}}, 0, true},
		{[]block{{ID: 4, Other: 1}, {ID: 3, Dirty: 9}}, 3, true},
		{[]block{{ID: 4, Dirty: 1}, {ID: 3, Dirty: 1}, {ID: 2, Dirty: 2}}, 3, true},
		{[]block{{ID: 4, Dirty: 1}, {ID: 3, Dirty: -1}, {ID: 2, Dirty: 2}}, 4, true},
		{[]block{{ID: most, Dirty: most}}, most, true},
	} {
		if id, is := victim.Choose(x.bs...); id != x.id || is != x.is {
			t.Errorf("Choose(%v): %d, %t", x.bs, id, is)
		}
	}
}

// P15.1: Cost is how many pages are dirty, whatever else a block has.
func TestCost(t *testing.T) {
	for _, dirty := range within() {
		for _, n := range numbers() {
			for _, x := range within() {
				b := n.with(block{9, 8, 1, 0, 6}, x)
				b.Dirty = dirty
				if got := victim.Cost(b); got != dirty {
					t.Errorf("Cost(%+v): %d", b, got)
				}
			}
		}
	}
}

// P15.1: Gain is what is left of the pages, 0 at least, and goes by nothing else of a block.
func TestGain(t *testing.T) {
	for _, x := range []struct {
		pages, dirty, gain int
	}{
		{4, 0, 4}, {4, 1, 3}, {4, 3, 1}, {4, 4, 0}, {4, 5, 0}, {4, most, 0},
		{8, 0, 8}, {8, 7, 1}, {8, 8, 0}, {8, 9, 0},
		{0, 0, 0}, {0, 1, 0}, {0, most, 0}, {1, 0, 1}, {1, 1, 0},
		{most, 0, most}, {most, 1, most - 1}, {most, most - 1, 1}, {most, most, 0}, {most - 1, most, 0}, {most - 1, 0, most - 1},
		{-1, 0, 0}, {-1, 1, 0}, {most + 1, 0, 0}, {most + 1, 1, 0}, {most + 1, most, 0},
		{math.MinInt, 0, 0}, {math.MinInt, 1, 0}, {math.MinInt, most, 0}, {math.MaxInt, 0, 0}, {math.MaxInt, 1, 0}, {math.MaxInt, most, 0},
		{1 << 32, 0, 0}, {1<<32 + 8, 1, 0}, {-most, 0, 0}, {-8, 0, 0},
	} {
		for _, clean := range []int{0, 1, 4, most} {
			for _, worn := range []int{0, 3, most} {
				for _, id := range []int{0, 7, most} {
					wantGain(t, x.pages, block{ID: id, Clean: clean, Dirty: x.dirty, Wear: worn}, x.gain)
					wantGain(t, x.pages, block{ID: id, Clean: clean, Dirty: x.dirty, Wear: worn, Other: 1}, 0)
					wantGain(t, x.pages, block{ID: id, Clean: clean, Dirty: x.dirty, Wear: worn, Other: most}, 0)
				}
			}
		}
	}
	some := append(beyond(), within()...)
	for _, pages := range some {
		for _, n := range numbers() {
			for _, x := range some {
				b := n.with(block{ID: 2, Clean: 1, Dirty: 3, Wear: 5}, x)
				wantGain(t, pages, b, wordedGain(pages, b))
			}
		}
	}
}

// P15.1: all short lists of blocks with small numbers, as the document words them.
func TestAllShortLists(t *testing.T) {
	small := blocks(0, 1)
	for many := range 4 {
		lists(small, many, func(bs []block) { want(t, bs, worded(bs)...) })
	}
	// Without Other pages, more of them.
	small = slices.DeleteFunc(blocks(0, 1), func(b block) bool { return b.Other > 0 || b.ID > 0 })
	for i := range small {
		small[i].ID = 10 - i
	}
	for many := range 6 {
		lists(small, many, func(bs []block) { want(t, bs, worded(bs)...) })
	}
}

// P15.1, R1: each two blocks with numbers at their bounds and one past them, and how many pages are won by each.
func TestEachTwoAtTheBounds(t *testing.T) {
	odd := blocks(-1, 0, most, most+1)
	fair := append(blocks(0, most), blocks(-1, most+1)[:3]...)
	for _, a := range odd {
		want(t, []block{a}, worded([]block{a})...)
		for _, b := range fair {
			want(t, []block{a, b}, worded([]block{a, b})...)
			want(t, []block{b, a}, worded([]block{b, a})...)
		}
		for _, pages := range []int{-1, 0, 4, most, most + 1} {
			wantGain(t, pages, a, wordedGain(pages, a))
		}
	}
}

// R1: nothing panics, whatever the numbers are.
func TestWhateverTheNumbersAre(t *testing.T) {
	ends := blocks(math.MinInt, -1, 0, 1, most+1, math.MaxInt)
	if got, right := victim.Order(ends...), worded(ends); !slices.Equal(got, right) {
		t.Errorf("Order of %d: %v, not %v", len(ends), got, right)
	}
	for _, b := range ends {
		victim.Cost(b)
		victim.Choose(b, b)
		for _, pages := range []int{math.MinInt, -1, 0, 1, 8, most, most + 1, math.MaxInt} {
			wantGain(t, pages, b, wordedGain(pages, b))
		}
	}
}

// P15.1: lists of some length, of few unlike numbers and of many, as the document words them.
func TestLongerLists(t *testing.T) {
	draw := drawn(15)
	for range 400 {
		bs, below := make([]block, draw(90)), 1+draw(12)
		for i := range bs {
			bs[i] = block{draw(below), draw(below), draw(below), 0, draw(below)}
			if draw(5) == 0 {
				bs[i].Other = draw(3)
			}
			if draw(7) == 0 {
				n, odd := numbers(), beyond()
				bs[i] = n[draw(len(n))].with(bs[i], odd[draw(len(odd))])
			}
		}
		want(t, bs, worded(bs)...)
	}
}

// passed is Order by a stable pass for each number, the last one that it goes by first.
func passed(bs []block) []int {
	in := slices.DeleteFunc(slices.Clone(bs), func(b block) bool { return !isCounted(b) || b.Other != 0 })
	for _, key := range []func(b block) int{
		func(b block) int { return b.ID },
		func(b block) int { return b.Wear },
		func(b block) int { return -b.Clean },
		func(b block) int { return b.Dirty },
	} {
		slices.SortStableFunc(in, func(a, b block) int { return cmp.Compare(key(a), key(b)) })
	}
	var out []int
	for _, b := range in {
		out = append(out, b.ID)
	}
	return out
}

// P15.1: long lists: alike, rising, falling, as if drawn.
func TestLongLists(t *testing.T) {
	const many = 1 << 17
	draw := drawn(51)
	for _, x := range []struct {
		name string
		of   func(i int) block
	}{
		{"alike", func(int) block { return block{3, 4, 5, 0, 6} }},
		{"rising IDs", func(i int) block { return block{ID: i} }},
		{"falling IDs", func(i int) block { return block{ID: many - i} }},
		{"rising costs", func(i int) block { return block{ID: many - i, Dirty: i} }},
		{"falling costs", func(i int) block { return block{ID: i, Dirty: most - i} }},
		{"rising Clean", func(i int) block { return block{ID: i, Clean: i} }},
		{"there and back", func(i int) block { return block{ID: i, Wear: min(i, many-i)} }},
		{"drawn", func(i int) block { return block{draw(many), draw(many), draw(many), draw(9) / 8, draw(many)} }},
		{"drawn of few", func(i int) block { return block{draw(4), draw(4), draw(4), draw(4) / 3, draw(4)} }},
		{"beyond", func(i int) block { return block{ID: i, Dirty: most + 2 - i%4} }},
	} {
		bs := make([]block, many)
		for i := range bs {
			bs[i] = x.of(i)
		}
		got, right := victim.Order(bs...), passed(bs)
		if !slices.Equal(got, right) {
			t.Errorf("%s: Order is another one", x.name)
		}
		if id, is := victim.Choose(bs...); id != right[0] || !is {
			t.Errorf("%s: Choose: %d, %t", x.name, id, is)
		}
	}
}

// R4: the blocks that are handed in are not changed, nor their spare room.
func TestBlocksStay(t *testing.T) {
	const spare = 9
	for _, many := range []int{0, 1, 2, 7, 12, 13, 32, 300} {
		draw := drawn(uint64(many))
		bs := make([]block, many+spare)
		for i := range bs {
			bs[i] = block{draw(40), draw(5), draw(5) - draw(7)/6, draw(4) / 3, draw(5)}
		}
		kept := slices.Clone(bs)
		want(t, bs[:many], worded(kept[:many])...)
		want(t, bs[:many:many], worded(kept[:many])...)
		want(t, bs, worded(kept)...)
		if !slices.Equal(bs, kept) {
			t.Errorf("%d blocks: %v became %v", many, kept, bs)
		}
	}
}

// R4: what Order answers shares no memory with another answer: what is written over it, and beyond it, is seen nowhere.
func TestOrderIsNew(t *testing.T) {
	for _, many := range []int{1, 2, 3, 5, 16, 32, 100} {
		draw := drawn(uint64(many))
		bs := make([]block, many, many+20)
		for i := range bs {
			bs[i] = block{ID: i, Dirty: draw(8), Wear: draw(8)}
		}
		kept := slices.Clone(bs[:cap(bs)])
		right := worded(bs)
		for range 3 {
			first, second := victim.Order(bs...), victim.Order(bs...)
			for i := range first[:cap(first)] {
				first[:cap(first)][i] = -77
			}
			_ = append(first, -78)
			if !slices.Equal(second, right) {
				t.Errorf("another answer became %v", second)
			}
			if !slices.Equal(bs[:cap(bs)], kept) {
				t.Error("the blocks were written over")
			}
			want(t, bs, right...)
		}
		third := victim.Order(bs...)
		for i := range bs {
			bs[i] = block{ID: 500 - i}
		}
		if !slices.Equal(third, right) {
			t.Errorf("an answer became %v with its blocks", third)
		}
	}
}

// R5: the same blocks answer the same, whatever was asked between, wherever they stand.
func TestSameBlocksSameAnswers(t *testing.T) {
	bs := []block{{4, 1, 2, 0, 9}, {2, 3, 2, 0, 9}, {8, 0, 0, 1, 0}, {6, 1, 2, 0, 4}, {1, -1, 0, 0, 0}}
	for range 5 {
		want(t, bs, 2, 6, 4)
		want(t, bs[2:3])
		want(t, []block{{ID: 1}}, 1)
		wantGain(t, 8, bs[0], 6)
		wantGain(t, -8, bs[0], 0)
		want(t, append(make([]block, 0, 50), bs...), 2, 6, 4)
		want(t, nil)
		want(t, []block{{ID: 0}, {ID: 0, Dirty: 1}, {ID: -1}}, 0, 0)
		if got := victim.Cost(bs[3]); got != 2 {
			t.Errorf("Cost: %d", got)
		}
	}
	// The same memory with other numbers are other blocks.
	bs[2].Other, bs[1].Clean = 0, 0
	want(t, bs, 8, 6, 4, 2)
}

// R5: several goroutines ask at one time, of the same blocks.
func TestFromSeveralGoroutines(t *testing.T) {
	bs := []block{{4, 1, 2, 0, 9}, {2, 3, 2, 0, 9}, {8, 0, 0, 1, 0}, {6, 1, 2, 0, 4}, {7, 1, 1, 0, 4}}
	var done sync.WaitGroup
	for range 8 {
		done.Go(func() {
			for range 200 {
				want(t, bs, 7, 2, 6, 4)
				want(t, bs[:2], 2, 4)
				wantGain(t, 4, bs[0], 2)
			}
		})
	}
	done.Wait()
}

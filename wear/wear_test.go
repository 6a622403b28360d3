package wear_test

import (
	"math"
	"slices"
	"sync"
	"testing"

	"scullery/api"
	"scullery/wear"
)

// The document's limits, in its own numbers.
const (
	threshold = 4
	most      = 1 << 30
)

// told is what all five calls answer of the same lists.
type told struct {
	spread, least, greatest int
	uneven                  bool
	order                   []int
}

// none is what is told, if no block counts.
var none = told{least: -1, greatest: -1}

// ask makes all five calls.
func ask(ws []int, counts []bool) told {
	return told{wear.Spread(ws, counts), wear.Least(ws, counts), wear.Greatest(ws, counts), wear.Uneven(ws, counts), wear.Order(ws, counts)}
}

// isAlike tells whether the same is told.
func (x told) isAlike(y told) bool {
	return x.spread == y.spread && x.least == y.least && x.greatest == y.greatest && x.uneven == y.uneven && slices.Equal(x.order, y.order)
}

// want fails, if anything else is told of these lists.
func want(t *testing.T, ws []int, counts []bool, x told) {
	t.Helper()
	if got := ask(ws, counts); !got.isAlike(x) {
		t.Errorf("%v, %v: %+v, not %+v", ws, counts, got, x)
	}
}

// every says of so many blocks that they count.
func every(many int) []bool { return slices.Repeat([]bool{true}, many) }

// bounded is a number of erases, as the document words it.
func bounded(n int) int {
	if 0 <= n && n <= most {
		return n
	}
	return 0
}

// worded is what the document words of two lists: Order by what stands ahead of each block, the rest by Order's ends.
func worded(ws []int, counts []bool) told {
	if len(ws) != len(counts) {
		return none
	}
	many := 0
	for _, is := range counts {
		if is {
			many++
		}
	}
	if many == 0 {
		return none
	}
	order := make([]int, many)
	for b := range ws {
		if !counts[b] {
			continue
		}
		ahead := 0
		for c := range ws {
			if counts[c] && (bounded(ws[c]) < bounded(ws[b]) || bounded(ws[c]) == bounded(ws[b]) && c < b) {
				ahead++
			}
		}
		order[ahead] = b
	}
	least, greatest := order[0], order[many-1]
	for b := len(ws) - 1; b >= 0; b-- {
		if counts[b] && bounded(ws[b]) == bounded(ws[greatest]) {
			greatest = b
		}
	}
	spread := bounded(ws[greatest]) - bounded(ws[least])
	return told{spread, least, greatest, spread > threshold, order}
}

// lists calls f with each list of so many of these.
func lists[T any](of []T, many int, f func(list []T)) {
	list := make([]T, many)
	var fill func(at int)
	fill = func(at int) {
		if at == many {
			f(list)
			return
		}
		for _, one := range of {
			list[at] = one
			fill(at + 1)
		}
	}
	fill(0)
}

// The limit is the document's.
func TestThreshold(t *testing.T) {
	if api.Threshold != threshold {
		t.Errorf("Threshold: %d", api.Threshold)
	}
}

// The document's example, and what the other calls tell of it.
func TestExample(t *testing.T) {
	if got := wear.Order([]int{3, 1, 1}, []bool{true, true, true}); !slices.Equal(got, []int{1, 2, 0}) {
		t.Errorf("Order: %v", got)
	}
	want(t, []int{3, 1, 1}, every(3), told{2, 1, 0, false, []int{1, 2, 0}})
}

// P12.1: ordinary lists, by hand.
func TestByHand(t *testing.T) {
	const y, n = true, false
	for _, x := range []struct {
		ws     []int
		counts []bool
		want   told
	}{
		{[]int{0}, []bool{y}, told{0, 0, 0, false, []int{0}}},
		{[]int{7}, []bool{y}, told{0, 0, 0, false, []int{0}}},
		{[]int{1, 2}, []bool{y, y}, told{1, 0, 1, false, []int{0, 1}}},
		{[]int{2, 1}, []bool{y, y}, told{1, 1, 0, false, []int{1, 0}}},
		{[]int{4, 8, 6}, []bool{y, y, y}, told{4, 0, 1, false, []int{0, 2, 1}}},
		{[]int{9, 4, 6}, []bool{y, y, y}, told{5, 1, 0, true, []int{1, 2, 0}}},
		{[]int{6, 9, 4, 8}, []bool{y, y, y, y}, told{5, 2, 1, true, []int{2, 0, 3, 1}}},
		{[]int{10, 20, 30, 40}, []bool{n, y, y, n}, told{10, 1, 2, true, []int{1, 2}}},
		{[]int{40, 30, 20, 10}, []bool{y, n, y, n}, told{20, 2, 0, true, []int{2, 0}}},
		{[]int{3, 1, 4, 1, 5, 9, 2, 6}, every(8), told{8, 1, 5, true, []int{1, 3, 6, 0, 2, 4, 7, 5}}},
		{[]int{3, 1, 4, 1, 5, 9, 2, 6}, []bool{y, n, y, y, y, n, y, y}, told{5, 3, 7, true, []int{3, 6, 0, 2, 4, 7}}},
		{[]int{12, 11, 13, 12, 11, 15}, every(6), told{4, 1, 5, false, []int{1, 4, 0, 3, 2, 5}}},
		{[]int{9, 10, 100, 1000}, every(4), told{991, 0, 3, true, []int{0, 1, 2, 3}}},
	} {
		want(t, x.ws, x.counts, x.want)
	}
}

// P12.1: lists of unlike lengths tell nothing, either way round.
func TestUnlikeLengths(t *testing.T) {
	many := []int{0, 1, 2, 3, 15, 16, 17, 32, 255, 256, 257, 1000}
	for _, a := range many {
		for _, b := range many {
			if a == b {
				continue
			}
			want(t, slices.Repeat([]int{9}, a), every(b), none)
			ws := make([]int, a)
			for i := range ws {
				ws[i] = 100 * i
			}
			want(t, ws, every(b), none)
			want(t, ws, make([]bool, b), none)
		}
	}
	want(t, nil, []bool{true}, none)
	want(t, []int{}, []bool{true, false}, none)
	want(t, nil, make([]bool, 3), none)
	want(t, []int{5}, nil, none)
	want(t, []int{5, 50}, []bool{}, none)
	// The spare room of the shorter one would do, and is none of it.
	want(t, []int{1, 20, 3}[:2], every(3), none)
	want(t, []int{1, 20, 3}, every(3)[:2], none)
	want(t, []int{1, 20, 3}[:0], every(3), none)
	want(t, []int{1, 20, 3}, every(3)[:0], none)
	want(t, []int{1, 20, 3}[:2], every(4)[:2], told{19, 0, 1, true, []int{0, 1}})
}

// P12.1: lists of none, nil or empty, or empty with spare room.
func TestListsOfNone(t *testing.T) {
	for _, ws := range [][]int{nil, {}, []int{7, 70}[:0]} {
		for _, counts := range [][]bool{nil, {}, every(2)[:0]} {
			want(t, ws, counts, none)
			if got := wear.Order(ws, counts); len(got) != 0 {
				t.Errorf("Order: %v", got)
			}
		}
	}
}

// P12.1: lists of which none counts, one, all but one, all.
func TestHowManyCount(t *testing.T) {
	for _, ws := range [][]int{{4}, {4, 4}, {0, 10, 20}, {20, 10, 0}, {5, 1, 9, 1, 9, 5}, make([]int, 32), {-3, most, most + 1, 2}} {
		want(t, ws, make([]bool, len(ws)), none)
		for b := range ws {
			counts := make([]bool, len(ws))
			counts[b] = true
			want(t, ws, counts, told{0, b, b, false, []int{b}})
			for i := range counts {
				counts[i] = !counts[i]
			}
			want(t, ws, counts, worded(ws, counts))
			if got := wear.Order(ws, counts); len(got) != len(ws)-1 || slices.Contains(got, b) {
				t.Errorf("Order(%v, all but %d): %v", ws, b, got)
			}
		}
		want(t, ws, every(len(ws)), worded(ws, every(len(ws))))
	}
}

// P12.1: of several that have the least number, or the greatest, it is the first one that counts.
func TestFirstOfSeveral(t *testing.T) {
	for _, x := range []struct {
		ws              []int
		not             []int
		least, greatest int
	}{
		{[]int{5, 5}, nil, 0, 0},
		{[]int{5, 5, 5}, []int{0}, 1, 1},
		{[]int{9, 1, 1, 9}, nil, 1, 0},
		{[]int{1, 9, 9, 1}, nil, 0, 1},
		{[]int{9, 1, 1, 9}, []int{0}, 1, 3},
		{[]int{9, 1, 1, 9}, []int{1}, 2, 0},
		{[]int{9, 1, 1, 9}, []int{0, 1}, 2, 3},
		{[]int{4, 4, 2, 7, 2, 7, 2, 7, 4}, nil, 2, 3},
		{[]int{4, 4, 2, 7, 2, 7, 2, 7, 4}, []int{2, 3}, 4, 5},
		{[]int{4, 4, 2, 7, 2, 7, 2, 7, 4}, []int{2, 3, 4, 5}, 6, 7},
		{[]int{4, 4, 2, 7, 2, 7, 2, 7, 4}, []int{2, 3, 4, 5, 6, 7}, 0, 0},
		{[]int{0, 0, 0, 0}, nil, 0, 0},
		{[]int{most, most, most}, nil, 0, 0},
		// These all count as 0.
		{[]int{3, -1, 0, most + 1}, nil, 1, 0},
		{[]int{3, most + 1, 0, -1}, nil, 1, 0},
		{[]int{most + 1, 0, -1}, nil, 0, 0},
		{[]int{-1, most + 1, 0}, nil, 0, 0},
	} {
		counts := every(len(x.ws))
		for _, b := range x.not {
			counts[b] = false
		}
		if a, b := wear.Least(x.ws, counts), wear.Greatest(x.ws, counts); a != x.least || b != x.greatest {
			t.Errorf("%v but %v: %d, %d, not %d, %d", x.ws, x.not, a, b, x.least, x.greatest)
		}
	}
}

// beyond are numbers of erases that are out of their bounds.
func beyond() []int {
	return []int{
		math.MinInt, math.MinInt + 1, -1 << 62, -most - 1, -most, 1 - most, -1 << 29, -1 << 32, -1000, -5, -4, -2, -1,
		most + 1, most + 2, 1<<31 - 1, 1 << 31, 1 << 32, 1<<32 + 7, 1 << 62, math.MaxInt - 1, math.MaxInt,
	}
}

// P12.1: erases out of their bounds count as 0.
func TestErasesBeyond(t *testing.T) {
	for _, odd := range beyond() {
		want(t, []int{odd}, every(1), told{0, 0, 0, false, []int{0}})
		want(t, []int{odd, 0}, every(2), told{0, 0, 0, false, []int{0, 1}})
		want(t, []int{0, odd}, every(2), told{0, 0, 0, false, []int{0, 1}})
		want(t, []int{odd, 1}, every(2), told{1, 0, 1, false, []int{0, 1}})
		want(t, []int{1, odd}, every(2), told{1, 1, 0, false, []int{1, 0}})
		want(t, []int{4, odd}, every(2), told{4, 1, 0, false, []int{1, 0}})
		want(t, []int{5, odd}, every(2), told{5, 1, 0, true, []int{1, 0}})
		want(t, []int{odd, most}, every(2), told{most, 0, 1, true, []int{0, 1}})
		want(t, []int{most, odd, 0, odd}, every(4), told{most, 1, 0, true, []int{1, 2, 3, 0}})
		for _, other := range beyond() {
			want(t, []int{odd, other}, every(2), told{0, 0, 0, false, []int{0, 1}})
			want(t, []int{2, odd, 0, other, 1}, every(5), told{2, 1, 0, false, []int{1, 2, 3, 4, 0}})
		}
	}
}

// P12.1: erases at their bounds, and beside these.
func TestErasesAtTheBounds(t *testing.T) {
	want(t, []int{0, most}, every(2), told{most, 0, 1, true, []int{0, 1}})
	want(t, []int{most, 0}, every(2), told{most, 1, 0, true, []int{1, 0}})
	want(t, []int{-1, most}, every(2), told{most, 0, 1, true, []int{0, 1}})
	want(t, []int{0, most + 1}, every(2), told{0, 0, 0, false, []int{0, 1}})
	want(t, []int{-1, most + 1}, every(2), told{0, 0, 0, false, []int{0, 1}})
	want(t, []int{most + 1, most, most - 1, 0, -1}, every(5), told{most, 0, 1, true, []int{0, 3, 4, 2, 1}})
	want(t, []int{most, most - 1}, every(2), told{1, 1, 0, false, []int{1, 0}})
	want(t, []int{most, most + 1}, every(2), told{most, 1, 0, true, []int{1, 0}})
	want(t, []int{most - 4, most}, every(2), told{4, 0, 1, false, []int{0, 1}})
	want(t, []int{most - 5, most}, every(2), told{5, 0, 1, true, []int{0, 1}})
	want(t, []int{1, -1, 0}, every(3), told{1, 1, 0, false, []int{1, 2, 0}})
	want(t, []int{1, 0, -1}, every(3), told{1, 1, 0, false, []int{1, 2, 0}})
	want(t, []int{math.MaxInt, math.MinInt}, every(2), told{0, 0, 0, false, []int{0, 1}})
	want(t, []int{math.MinInt, math.MaxInt}, every(2), told{0, 0, 0, false, []int{0, 1}})
}

// P12.1: nothing hangs on a block that does not count, worn however much, wherever it stands.
func TestWhatDoesNotCount(t *testing.T) {
	odd := append(beyond(), 0, 1, 2, 3, 6, 7, 8, 12, 13, 100, most-1, most)
	for _, worn := range odd {
		for at := range 4 {
			ws := slices.Insert([]int{6, 2, 7}, at, worn)
			counts := slices.Insert(every(3), at, false)
			moved := []int{0, 1, 2}
			for i := range moved {
				if i >= at {
					moved[i]++
				}
			}
			want(t, ws, counts, told{5, moved[1], moved[2], true, []int{moved[1], moved[0], moved[2]}})
		}
		want(t, []int{worn, 3, worn, 3, worn}, []bool{false, true, false, true, false}, told{0, 1, 1, false, []int{1, 3}})
		want(t, []int{worn, worn}, []bool{false, false}, none)
		want(t, []int{worn, 8, worn}, []bool{false, true, false}, told{0, 1, 1, false, []int{1}})
	}
}

// P12.1: Uneven where Spread is the threshold, one below, one above.
func TestUneven(t *testing.T) {
	for _, least := range []int{0, 1, 2, 100, 255, 1 << 16, most - 10} {
		for spread := range 10 {
			for _, ws := range [][]int{{least, least + spread}, {least + spread, least}, {least, least + spread/2, least + spread, least}} {
				counts := every(len(ws))
				if got := wear.Spread(ws, counts); got != spread {
					t.Errorf("Spread(%v): %d", ws, got)
				}
				if got := wear.Uneven(ws, counts); got != (spread > threshold) {
					t.Errorf("Uneven(%v): %v", ws, got)
				}
			}
		}
	}
	for _, x := range []struct {
		greatest int
		want     bool
	}{{0, false}, {3, false}, {4, false}, {5, true}, {6, true}, {260, true}, {1 << 16, true}, {most, true}, {most + 1, false}, {-5, false}} {
		if got := wear.Uneven([]int{x.greatest, 0}, every(2)); got != x.want {
			t.Errorf("Uneven(%d, 0): %v", x.greatest, got)
		}
	}
}

// P12.1: Order: those of one number rise by their own numbers, also those that count as 0.
func TestOrderOfOneNumber(t *testing.T) {
	for _, x := range []struct{ ws, want []int }{
		{[]int{2, 1, 2, 1, 2, 1}, []int{1, 3, 5, 0, 2, 4}},
		{[]int{7, 7, 7, 7, 7}, []int{0, 1, 2, 3, 4}},
		{[]int{1, 0, -1, 0, -7, most + 1, 1, 0}, []int{1, 2, 3, 4, 5, 7, 0, 6}},
		{[]int{math.MaxInt, math.MinInt, 0, -1, 1, most, most + 1}, []int{0, 1, 2, 3, 6, 4, 5}},
		{[]int{-1, -2, -3, -4}, []int{0, 1, 2, 3}},
		{[]int{most + 4, most + 3, most + 2, most + 1}, []int{0, 1, 2, 3}},
		{[]int{most, 0, most, 0, most, 0}, []int{1, 3, 5, 0, 2, 4}},
	} {
		if got := wear.Order(x.ws, every(len(x.ws))); !slices.Equal(got, x.want) {
			t.Errorf("Order(%v): %v, not %v", x.ws, got, x.want)
		}
	}
	ws := make([]int, 32)
	for i := range ws {
		ws[i] = 31 - i
	}
	for b, got := range wear.Order(ws, every(32)) {
		if got != 31-b {
			t.Errorf("Order of falling ones, the %d-th: %d", b, got)
		}
	}
}

// P12.1: all short lists, of all that count and do not, as the document words them.
func TestAllShortLists(t *testing.T) {
	some := []int{-1, 0, 1, 4, 5, 6, most, most + 1}
	for many := range 5 {
		lists(some, many, func(ws []int) {
			lists([]bool{false, true}, many, func(counts []bool) {
				want(t, ws, counts, worded(ws, counts))
			})
		})
	}
	for many := 5; many <= 7; many++ {
		lists([]int{0, 2, 5}, many, func(ws []int) {
			want(t, ws, every(many), worded(ws, every(many)))
		})
	}
	for many := range 4 {
		lists(some, many, func(ws []int) {
			for other := range 4 {
				if other != many {
					want(t, ws, every(other), none)
				}
			}
		})
	}
}

// drawn answers numbers that look as if they were drawn, the same each time.
func drawn(from uint64) func(below int) int {
	return func(below int) int {
		from = from*6364136223846793005 + 1442695040888963407
		return int(from >> 33 % uint64(below))
	}
}

// P12.1: lists of some length, as the document words them.
func TestLongerLists(t *testing.T) {
	draw := drawn(12)
	for range 300 {
		ws, counts := make([]int, draw(70)), []bool{}
		below := 1 + draw(40)
		for i := range ws {
			ws[i] = draw(below) - 2
			counts = append(counts, draw(4) > 0)
		}
		want(t, ws, counts, worded(ws, counts))
	}
}

// P12.1: long lists: alike, rising, falling, as if drawn.
func TestLongLists(t *testing.T) {
	const many = 1 << 19
	draw := drawn(19)
	for _, x := range []struct {
		name  string
		erase func(i int) int
	}{
		{"alike", func(int) int { return 6 }},
		{"rising", func(i int) int { return i }},
		{"falling", func(i int) int { return many - i }},
		{"two kinds", func(i int) int { return i % 2 }},
		{"there and back", func(i int) int { return min(i, many-i) }},
		{"drawn", func(int) int { return draw(many) }},
		{"drawn of few", func(int) int { return draw(5) - 1 }},
		{"beyond", func(i int) int { return most + 1 - i%3 }},
	} {
		ws, counts := make([]int, many), make([]bool, many)
		for i := range ws {
			ws[i], counts[i] = x.erase(i), i%5 != 3
		}
		wantSorted(t, x.name, ws, counts)
		if got := ask(ws[1:], counts); !got.isAlike(none) {
			t.Errorf("%s, one shorter: %d, %d, %d, %v", x.name, got.spread, got.least, got.greatest, got.uneven)
		}
	}
}

// wantSorted fails, if Order is not of all that count, each ahead of the next, or the other calls don't agree with its ends.
func wantSorted(t *testing.T, name string, ws []int, counts []bool) {
	t.Helper()
	got := ask(ws, counts)
	many := 0
	for _, is := range counts {
		if is {
			many++
		}
	}
	if len(got.order) != many {
		t.Fatalf("%s: %d of %d", name, len(got.order), many)
	}
	for i, b := range got.order {
		if !counts[b] {
			t.Fatalf("%s: %d does not count", name, b)
		}
		if i == 0 {
			continue
		}
		ahead := got.order[i-1]
		if a, own := bounded(ws[ahead]), bounded(ws[b]); a > own || a == own && ahead >= b {
			t.Fatalf("%s: %d is ahead of %d", name, ahead, b)
		}
	}
	greatest := 0
	for !counts[greatest] || bounded(ws[greatest]) != bounded(ws[got.order[many-1]]) {
		greatest++
	}
	spread := bounded(ws[greatest]) - bounded(ws[got.order[0]])
	if got.least != got.order[0] || got.greatest != greatest || got.spread != spread || got.uneven != (spread > threshold) {
		t.Errorf("%s: %d, %d, %d, %v", name, got.spread, got.least, got.greatest, got.uneven)
	}
}

// R4: neither list is changed, nor its spare room.
func TestListsStay(t *testing.T) {
	const spare = 9
	for _, many := range []int{0, 1, 2, 7, 32, 300} {
		draw := drawn(uint64(many))
		ws, counts := make([]int, many+spare), make([]bool, many+spare)
		for i := range ws {
			ws[i], counts[i] = draw(20)-3, draw(3) > 0
		}
		keptWs, keptCounts := slices.Clone(ws), slices.Clone(counts)
		ask(ws[:many], counts[:many])
		ask(ws[:many], counts)
		ask(ws, counts[:many])
		ask(ws[:many], nil)
		ask(nil, counts[:many])
		if !slices.Equal(ws, keptWs) || !slices.Equal(counts, keptCounts) {
			t.Errorf("changed: %v, %v; %v, %v", keptWs, keptCounts, ws, counts)
		}
	}
}

// R4: what Order answers shares no memory with a list, nor with another answer: what is written over it, and beyond it, is seen nowhere.
func TestOrderIsNew(t *testing.T) {
	for _, many := range []int{1, 2, 3, 5, 16, 32, 100} {
		draw := drawn(uint64(many))
		ws, counts := make([]int, many, many+20), make([]bool, many, many+20)
		for i := range ws {
			// Blocks in their order, worn as much as their numbers: Order could be the list itself.
			ws[i], counts[i] = i, true
		}
		for range 3 {
			keptWs, keptCounts := slices.Clone(ws[:cap(ws)]), slices.Clone(counts[:cap(counts)])
			first, second := wear.Order(ws, counts), wear.Order(ws, counts)
			right := slices.Clone(first)
			if !slices.Equal(first, worded(ws, counts).order) {
				t.Errorf("Order(%v): %v", ws, first)
			}
			for i := range first[:cap(first)] {
				first[:cap(first)][i] = -77
			}
			_ = append(first, -78)
			if !slices.Equal(second, right) {
				t.Errorf("another answer became %v", second)
			}
			if !slices.Equal(ws[:cap(ws)], keptWs) || !slices.Equal(counts[:cap(counts)], keptCounts) {
				t.Error("a list was written over")
			}
			want(t, ws, counts, worded(ws, counts))
			for i := range ws {
				ws[i] = draw(6)
			}
			if !slices.Equal(second, right) {
				t.Errorf("an answer became %v with its list", second)
			}
		}
	}
}

// R5: the same lists answer the same, whatever was asked between, wherever they stand.
func TestSameListsSameAnswers(t *testing.T) {
	ws, counts := []int{5, 99, 5, 10, 0, -4, most + 1}, []bool{true, false, true, true, false, true, false}
	right := told{10, 5, 3, true, []int{5, 0, 2, 3}}
	for range 5 {
		want(t, ws, counts, right)
		want(t, []int{8}, every(1), told{0, 0, 0, false, []int{0}})
		want(t, ws, counts[:3], none)
		want(t, slices.Clone(ws), append(make([]bool, 0, 50), counts...), right)
		want(t, []int{0, 50, most}, every(3), told{most, 0, 2, true, []int{0, 1, 2}})
		want(t, nil, nil, none)
	}
	// The same memory with other numbers is another list.
	ws[0], counts[3] = 2, false
	want(t, ws, counts, told{5, 5, 2, true, []int{5, 0, 2}})
}

// R5: several goroutines ask at one time, of the same lists.
func TestFromSeveralGoroutines(t *testing.T) {
	ws, counts := []int{3, 1, 4, 1, 5, 9, 2, 6}, every(8)
	right := told{8, 1, 5, true, []int{1, 3, 6, 0, 2, 4, 7, 5}}
	var done sync.WaitGroup
	for range 8 {
		done.Go(func() {
			for range 200 {
				want(t, ws, counts, right)
				want(t, ws, counts[1:], none)
			}
		})
	}
	done.Wait()
}

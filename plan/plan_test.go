package plan_test

import (
	"math"
	"sync"
	"testing"

	"scullery/api"
	"scullery/plan"
	"scullery/seg"
)

// The document's limits, in its own numbers.
const (
	leastBlocks, mostBlocks = 16, 32
	leastPages, mostPages   = 4, 8
	leastSize, mostSize     = 128, 256
	threshold               = 4
)

// small is the document's example.
var small = api.Geometry{Blocks: 16, Pages: 4, Size: 128}

// all calls f with each geometry whose numbers are within the limits.
func all(f func(g api.Geometry)) {
	for blocks := leastBlocks; blocks <= mostBlocks; blocks++ {
		for pages := leastPages; pages <= mostPages; pages++ {
			for size := leastSize; size <= mostSize; size++ {
				f(api.Geometry{Blocks: blocks, Pages: pages, Size: size})
			}
		}
	}
}

// some are geometries that may be: the edges, and between.
func some() []api.Geometry {
	var out []api.Geometry
	for _, blocks := range []int{leastBlocks, 17, 23, mostBlocks - 1, mostBlocks} {
		for pages := leastPages; pages <= mostPages; pages++ {
			for _, size := range []int{leastSize, 131, 132, 200, mostSize} {
				out = append(out, api.Geometry{Blocks: blocks, Pages: pages, Size: size})
			}
		}
	}
	return out
}

// around are numbers about limits: below, at, within, above, and far off them.
func around(least, most int) []int {
	return []int{
		math.MinInt, math.MinInt + 1, -1 << 32, -most, -least, -1, 0, 1, least - 1, least, least + 1, most - 1, most, most + 1, 2 * most,
		256 + least, 65536 + least, 1<<32 + least, 1 << 62, math.MaxInt - 1, math.MaxInt,
	}
}

// outside are geometries of which no number, or not each one, is within its limits.
func outside() []api.Geometry {
	var out []api.Geometry
	for _, blocks := range around(leastBlocks, mostBlocks) {
		for _, pages := range around(leastPages, mostPages) {
			for _, size := range around(leastSize, mostSize) {
				if g := (api.Geometry{Blocks: blocks, Pages: pages, Size: size}); !isWithin(g) {
					out = append(out, g)
				}
			}
		}
	}
	return out
}

// isWithin tells whether Of is not zero, as the document words it.
func isWithin(g api.Geometry) bool {
	return leastBlocks <= g.Blocks && g.Blocks <= mostBlocks && leastPages <= g.Pages && g.Pages <= mostPages && leastSize <= g.Size && g.Size <= mostSize
}

// upwards is how often b goes into a, upwards.
func upwards(a, b int) int { return (a + b - 1) / b }

// worded are the numbers of a geometry within the limits, as the document words them, chapter 6's too.
func worded(g api.Geometry) api.Numbers {
	var out api.Numbers
	out.Pages = g.Blocks * g.Pages
	out.Each = (g.Size - 42) / 15
	out.Check = upwards(upwards(out.Pages, out.Each), g.Pages)
	out.Spare = out.Check + out.Check + 5
	out.Room = g.Blocks - out.Spare
	out.Most = 200 + 8*out.Pages
	return out
}

// wantNone fails, if anything is told of a geometry of which Of is zero.
func wantNone(t *testing.T, g api.Geometry) {
	t.Helper()
	if got := plan.Of(g); got != (api.Numbers{}) {
		t.Errorf("Of(%+v): %+v", g, got)
	}
	wantUnfit(t, g)
}

// wantUnfit fails, if a geometry may be, or anything is told of its pages.
func wantUnfit(t *testing.T, g api.Geometry) {
	t.Helper()
	if plan.May(g) {
		t.Errorf("May(%+v)", g)
	}
	for _, n := range []int{math.MinInt, -1, 0, 1, 2, 3, g.Blocks - 1, g.Pages - 1, math.MaxInt} {
		if got := plan.Limit(g, n); got != 0 {
			t.Errorf("Limit(%+v, %d): %d", g, n, got)
		}
		wantNoPlace(t, g, n)
		wantNoPage(t, g, 0, n)
		wantNoPage(t, g, n, 0)
	}
}

// wantNoPage fails, if there is such a page.
func wantNoPage(t *testing.T, g api.Geometry, block, page int) {
	t.Helper()
	if got := plan.Page(g, block, page); got != -1 {
		t.Errorf("Page(%+v, %d, %d): %d", g, block, page, got)
	}
}

// wantNoPlace fails, if there is a page of that number.
func wantNoPlace(t *testing.T, g api.Geometry, n int) {
	t.Helper()
	if block, page := plan.Place(g, n); block != -1 || page != -1 {
		t.Errorf("Place(%+v, %d): %d, %d", g, n, block, page)
	}
}

// wantPage fails, if that page has not this number, or this number is not that page's.
func wantPage(t *testing.T, g api.Geometry, block, page, n int) {
	t.Helper()
	if got := plan.Page(g, block, page); got != n {
		t.Errorf("Page(%+v, %d, %d): %d, not %d", g, block, page, got, n)
	}
	if b, p := plan.Place(g, n); b != block || p != page {
		t.Errorf("Place(%+v, %d): %d, %d, not %d, %d", g, n, b, p, block, page)
	}
}

// wantLimit fails, if not so many pages may be dirty.
func wantLimit(t *testing.T, g api.Geometry, bad, want int) {
	t.Helper()
	if got := plan.Limit(g, bad); got != want {
		t.Errorf("Limit(%+v, %d): %d, not %d", g, bad, got, want)
	}
}

// wantSpread fails, if blocks may not be worn so much unlike.
func wantSpread(t *testing.T, g api.Geometry, crashes, want int) {
	t.Helper()
	if got := plan.Spread(g, crashes); got != want {
		t.Errorf("Spread(%+v, %d): %d, not %d", g, crashes, got, want)
	}
}

// The limits are the document's.
func TestLimits(t *testing.T) {
	got := [...]int{api.MinBlocks, api.MaxBlocks, api.MinPages, api.MaxPages, api.MinSize, api.MaxSize, api.Threshold}
	want := [...]int{leastBlocks, mostBlocks, leastPages, mostPages, leastSize, mostSize, threshold}
	if got != want {
		t.Errorf("other limits: %v", got)
	}
}

// The document's example, each of its six numbers.
func TestExample(t *testing.T) {
	got := plan.Of(small)
	for _, x := range []struct {
		name      string
		got, want int
	}{
		{"Pages", got.Pages, 64}, {"Each", got.Each, 5}, {"Check", got.Check, 4}, {"Spare", got.Spare, 13}, {"Room", got.Room, 3}, {"Most", got.Most, 712},
	} {
		if x.got != x.want {
			t.Errorf("%s: %d, not %d", x.name, x.got, x.want)
		}
	}
	if !plan.May(small) {
		t.Error("May: false")
	}
}

// P10.1: numbers that were reckoned by hand.
func TestOfByHand(t *testing.T) {
	for _, x := range []struct {
		blocks, pages, size int
		want                api.Numbers
	}{
		{16, 8, 256, api.Numbers{Pages: 128, Each: 14, Check: 2, Spare: 9, Room: 7, Most: 1224}},
		{32, 8, 256, api.Numbers{Pages: 256, Each: 14, Check: 3, Spare: 11, Room: 21, Most: 2248}},
		{32, 4, 128, api.Numbers{Pages: 128, Each: 5, Check: 7, Spare: 19, Room: 13, Most: 1224}},
		{32, 8, 128, api.Numbers{Pages: 256, Each: 5, Check: 7, Spare: 19, Room: 13, Most: 2248}},
		{16, 4, 256, api.Numbers{Pages: 64, Each: 14, Check: 2, Spare: 9, Room: 7, Most: 712}},
		{24, 6, 200, api.Numbers{Pages: 144, Each: 10, Check: 3, Spare: 11, Room: 13, Most: 1352}},
		{17, 5, 131, api.Numbers{Pages: 85, Each: 5, Check: 4, Spare: 13, Room: 4, Most: 880}},
		{21, 7, 132, api.Numbers{Pages: 147, Each: 6, Check: 4, Spare: 13, Room: 8, Most: 1376}},
		// The parts are just four blocks of pages, and one more.
		{20, 4, 128, api.Numbers{Pages: 80, Each: 5, Check: 4, Spare: 13, Room: 7, Most: 840}},
		{21, 4, 128, api.Numbers{Pages: 84, Each: 5, Check: 5, Spare: 15, Room: 6, Most: 872}},
		// The same of three blocks, and of five pages each.
		{30, 5, 192, api.Numbers{Pages: 150, Each: 10, Check: 3, Spare: 11, Room: 19, Most: 1400}},
		{31, 5, 192, api.Numbers{Pages: 155, Each: 10, Check: 4, Spare: 13, Room: 18, Most: 1440}},
	} {
		g := api.Geometry{Blocks: x.blocks, Pages: x.pages, Size: x.size}
		if got := plan.Of(g); got != x.want {
			t.Errorf("Of(%+v): %+v, not %+v", g, got, x.want)
		}
		if !plan.May(g) {
			t.Errorf("May(%+v): false", g)
		}
	}
}

// P10.1: each geometry within the limits, as the document words it, and what is just a whole number of blocks, and one part more.
func TestOfEach(t *testing.T) {
	whole, more, unfit := 0, 0, 0
	all(func(g api.Geometry) {
		got, want := plan.Of(g), worded(g)
		if got != want {
			t.Errorf("Of(%+v): %+v, not %+v", g, got, want)
		}
		if plan.May(g) != (want.Room >= 1) {
			t.Errorf("May(%+v): %v, of room %d", g, plan.May(g), want.Room)
		}
		if want.Room < 1 {
			unfit++
			wantUnfit(t, g)
		}
		if got.Each != seg.Each(g.Size) {
			t.Errorf("Of(%+v): %d, not seg's %d", g, got.Each, seg.Each(g.Size))
		}
		parts := seg.Parts(g.Size, g.Blocks*g.Pages)
		if got.Check*g.Pages < parts || (got.Check-1)*g.Pages >= parts {
			t.Errorf("Of(%+v): %d blocks of %d parts", g, got.Check, parts)
		}
		switch parts % g.Pages {
		case 0:
			whole++
		case 1:
			more++
		}
	})
	if whole == 0 || more == 0 {
		t.Errorf("%d of whole blocks, %d of one part more", whole, more)
	}
	// There is none without room: each of 16 blocks and more has some.
	if unfit != 0 {
		t.Errorf("%d geometries without room", unfit)
	}
}

// P10.1: one number below its least one, at it, at its most, one above, 0, negative, and far off.
func TestOfAtTheEdges(t *testing.T) {
	for _, g := range some() {
		for _, blocks := range around(leastBlocks, mostBlocks) {
			odd := g
			odd.Blocks = blocks
			wantWithin(t, odd, leastBlocks <= blocks && blocks <= mostBlocks)
		}
		for _, pages := range around(leastPages, mostPages) {
			odd := g
			odd.Pages = pages
			wantWithin(t, odd, leastPages <= pages && pages <= mostPages)
		}
		for _, size := range around(leastSize, mostSize) {
			odd := g
			odd.Size = size
			wantWithin(t, odd, leastSize <= size && size <= mostSize)
		}
	}
}

// wantWithin fails, if Of is zero of a geometry within the limits, or not zero of another one.
func wantWithin(t *testing.T, g api.Geometry, want bool) {
	t.Helper()
	if !want {
		wantNone(t, g)
		return
	}
	if got := plan.Of(g); got != worded(g) {
		t.Errorf("Of(%+v): %+v", g, got)
	}
}

// P10.1: two or three numbers out of their limits, or changed about.
func TestOfSeveralOutside(t *testing.T) {
	for _, g := range outside() {
		wantNone(t, g)
	}
	wantNone(t, api.Geometry{})
	wantNone(t, api.Geometry{Blocks: 4, Pages: 16, Size: 128})
	wantNone(t, api.Geometry{Blocks: 128, Pages: 4, Size: 16})
	wantNone(t, api.Geometry{Blocks: 16, Pages: 128, Size: 4})
	wantNone(t, api.Geometry{Blocks: -16, Pages: -4, Size: 128})
	// Products of these wrap round to ones that would do.
	wantNone(t, api.Geometry{Blocks: 1<<60 + 16, Pages: 16, Size: 128})
	wantNone(t, api.Geometry{Blocks: 16, Pages: 1<<60 + 4, Size: 128})
}

// P10.1: all geometries about the limits, one step beyond them too.
func TestMayAbout(t *testing.T) {
	for blocks := leastBlocks - 2; blocks <= mostBlocks+2; blocks++ {
		for pages := leastPages - 2; pages <= mostPages+2; pages++ {
			for size := leastSize - 2; size <= mostSize+2; size++ {
				g := api.Geometry{Blocks: blocks, Pages: pages, Size: size}
				if got := plan.May(g); got != isWithin(g) {
					t.Errorf("May(%+v): %v", g, got)
				}
				if got := plan.Of(g); (got != api.Numbers{}) != isWithin(g) {
					t.Errorf("Of(%+v): %+v", g, got)
				}
			}
		}
	}
}

// P10.1: Limit of the document's example, by hand.
func TestLimitByHand(t *testing.T) {
	for _, x := range [][2]int{
		{math.MinInt, 0}, {math.MinInt + 1, 0}, {-16, 0}, {-3, 0}, {-2, 0}, {-1, 0}, {0, 12}, {1, 8}, {2, 4}, {3, 0}, {4, 0}, {5, 0},
		{15, 0}, {16, 0}, {17, 0}, {100, 0}, {1 << 32, 0}, {1<<62 + 2, 0}, {math.MaxInt - 1, 0}, {math.MaxInt, 0},
	} {
		wantLimit(t, small, x[0], x[1])
	}
	large := api.Geometry{Blocks: 32, Pages: 8, Size: 256}
	for _, x := range [][2]int{{-1, 0}, {0, 168}, {1, 160}, {10, 88}, {19, 16}, {20, 8}, {21, 0}, {22, 0}, {31, 0}, {32, 0}, {math.MaxInt, 0}, {math.MinInt, 0}} {
		wantLimit(t, large, x[0], x[1])
	}
}

// P10.1: Limit of each geometry: all its room, one page's worth of blocks less for each bad one, never below 0.
func TestLimitOfEach(t *testing.T) {
	all(func(g api.Geometry) {
		room := worded(g).Room
		for bad := range g.Blocks + 3 {
			want := 0
			if bad < room {
				want = room*g.Pages - bad*g.Pages
			}
			wantLimit(t, g, bad, want)
		}
		for _, bad := range []int{math.MinInt, -g.Blocks, -1, math.MaxInt, math.MaxInt - room, 1 << 62, 1<<62 + 1} {
			wantLimit(t, g, bad, 0)
		}
	})
}

// P10.1: Limit of geometries that may not be, whatever is bad.
func TestLimitOfNone(t *testing.T) {
	for _, g := range outside() {
		for _, bad := range []int{math.MinInt, -1, 0, 1, 2, 3, 16, math.MaxInt} {
			wantLimit(t, g, bad, 0)
		}
	}
}

// P10.1: Spread: Threshold, Blocks and crashes together; crashes below 0 are 0.
func TestSpread(t *testing.T) {
	for _, x := range [][2]int{
		{math.MinInt, 20}, {math.MinInt + 1, 20}, {-1 << 32, 20}, {-21, 20}, {-2, 20}, {-1, 20}, {0, 20}, {1, 21}, {2, 22}, {3, 23}, {300, 320},
		{1 << 20, 1<<20 + 20}, {1<<31 - 1, 1<<31 + 19}, {1 << 40, 1<<40 + 20}, {math.MaxInt - 20, math.MaxInt},
	} {
		wantSpread(t, small, x[0], x[1])
	}
	all(func(g api.Geometry) {
		for crashes := range 4 {
			wantSpread(t, g, crashes, g.Blocks+crashes+threshold)
			wantSpread(t, g, -crashes, g.Blocks+threshold)
		}
		wantSpread(t, g, math.MinInt, g.Blocks+threshold)
		wantSpread(t, g, 1000, g.Blocks+1000+threshold)
	})
}

// P10.1: of Spread the document names no geometry that may not be: the sum stands for each.
func TestSpreadOfWhatMayNotBe(t *testing.T) {
	for _, blocks := range []int{-100, -1, 0, 1, leastBlocks - 1, mostBlocks + 1, 1000} {
		g := api.Geometry{Blocks: blocks, Pages: 3, Size: 127}
		wantSpread(t, g, -1, blocks+threshold)
		wantSpread(t, g, 0, blocks+threshold)
		wantSpread(t, g, 7, blocks+threshold+7)
	}
	for _, g := range outside() {
		for _, crashes := range []int{math.MinInt, -1, 0, 1, math.MaxInt} {
			plan.Spread(g, crashes)
		}
	}
}

// P10.1: each page of each geometry has its number, and each number its page.
func TestPageAndPlace(t *testing.T) {
	all(func(g api.Geometry) {
		if g.Size%43 != 0 && g.Size != leastSize && g.Size != mostSize {
			return
		}
		n := 0
		for block := range g.Blocks {
			for page := range g.Pages {
				wantPage(t, g, block, page, n)
				n++
			}
		}
		wantNoPlace(t, g, n)
		wantNoPlace(t, g, -1)
	})
}

// P10.1: Page of blocks and pages at the edges, and beside them.
func TestPageAtTheEdges(t *testing.T) {
	for _, g := range some() {
		wantPage(t, g, 0, 0, 0)
		wantPage(t, g, 0, g.Pages-1, g.Pages-1)
		wantPage(t, g, g.Blocks-1, 0, (g.Blocks-1)*g.Pages)
		wantPage(t, g, g.Blocks-1, g.Pages-1, g.Blocks*g.Pages-1)
		far := []int{math.MinInt, math.MinInt + 1, -1 << 62, -1 << 32, -256, -2, -1, 256, 1 << 32, 1 << 60, 1 << 61, 1 << 62, 1<<62 + 1, math.MaxInt - 1, math.MaxInt}
		for _, block := range append([]int{-g.Blocks, g.Blocks, g.Blocks + 1, 2 * g.Blocks, 1<<32 + g.Blocks - 1}, far...) {
			for page := range g.Pages {
				wantNoPage(t, g, block, page)
			}
			wantNoPage(t, g, block, -1)
			wantNoPage(t, g, block, g.Pages)
		}
		for _, page := range append([]int{-g.Pages, g.Pages, g.Pages + 1, 2 * g.Pages, 1<<32 + g.Pages - 1}, far...) {
			for block := range g.Blocks {
				wantNoPage(t, g, block, page)
			}
			wantNoPage(t, g, -1, page)
			wantNoPage(t, g, g.Blocks, page)
		}
		// These reckon to a page's number, and are none all the same.
		wantNoPage(t, g, -1, g.Pages)
		wantNoPage(t, g, -1, 2*g.Pages-1)
		wantNoPage(t, g, 1, -1)
		wantNoPage(t, g, g.Blocks, -1)
		wantNoPage(t, g, 0, g.Pages)
	}
}

// P10.1: Place of numbers at the edges, and beside them.
func TestPlaceAtTheEdges(t *testing.T) {
	for _, g := range some() {
		many := g.Blocks * g.Pages
		wantPage(t, g, 0, 0, 0)
		wantPage(t, g, 0, g.Pages-1, g.Pages-1)
		wantPage(t, g, 1, 0, g.Pages)
		wantPage(t, g, 1, g.Pages-1, 2*g.Pages-1)
		wantPage(t, g, 2, 0, 2*g.Pages)
		wantPage(t, g, g.Blocks-1, 0, many-g.Pages)
		wantPage(t, g, g.Blocks-1, g.Pages-1, many-1)
		for _, n := range []int{
			math.MinInt, math.MinInt + 1, -1 << 32, -many, 1 - g.Pages, -g.Pages, -2, -1, many, many + 1, many + g.Pages, 2 * many, 1 << 32, 1<<32 + 1, 1 << 62, math.MaxInt - 1, math.MaxInt,
		} {
			wantNoPlace(t, g, n)
		}
	}
}

// P10.1: geometries that may not be have no page, also where they reckon to one.
func TestPageAndPlaceOfNone(t *testing.T) {
	for _, g := range outside() {
		for _, n := range []int{math.MinInt, -1, 0, 1, 3, 15, math.MaxInt} {
			wantNoPlace(t, g, n)
			wantNoPage(t, g, n, 0)
			wantNoPage(t, g, 0, n)
			wantNoPage(t, g, n, n)
		}
	}
}

// R1: each call ends and answers, whatever ints it is told.
func TestWhateverInts(t *testing.T) {
	ints := []int{math.MinInt, math.MinInt + 1, -1 << 62, -1 << 31, -33, -1, 0, 1, 2, 4, 5, 8, 16, 17, 32, 128, 200, 256, 1 << 31, 1 << 62, math.MaxInt - 1, math.MaxInt}
	for _, blocks := range ints {
		for _, pages := range ints {
			for _, size := range ints {
				g := api.Geometry{Blocks: blocks, Pages: pages, Size: size}
				may := plan.May(g)
				for _, n := range ints {
					limit := plan.Limit(g, n)
					if limit < 0 || limit > 0 && !may {
						t.Errorf("Limit(%+v, %d): %d", g, n, limit)
					}
					plan.Spread(g, n)
					if block, page := plan.Place(g, n); block != -1 || page != -1 {
						wantPage(t, g, block, page, n)
					}
					for _, page := range []int{math.MinInt, -1, 0, 3, 4, 7, 8, math.MaxInt} {
						if got := plan.Page(g, n, page); got != -1 {
							wantPage(t, g, n, page, got)
						}
					}
				}
			}
		}
	}
}

// R4, R5: the same numbers are answered alike, whatever was asked between, from several goroutines at one time too.
func TestAnswersHangOnTheArgumentsAlone(t *testing.T) {
	var done sync.WaitGroup
	for range 8 {
		done.Go(func() {
			for range 20 {
				for _, g := range some() {
					if first, second := plan.Of(g), plan.Of(g); first != worded(g) || second != first {
						t.Errorf("Of(%+v): %+v, %+v", g, first, second)
					}
					wantLimit(t, g, 1, (worded(g).Room-1)*g.Pages)
					wantSpread(t, g, 5, g.Blocks+5+threshold)
					wantPage(t, g, 3, 2, 3*g.Pages+2)
					wantNone(t, api.Geometry{Blocks: g.Blocks, Pages: g.Pages, Size: leastSize - 1})
					wantLimit(t, g, 1, (worded(g).Room-1)*g.Pages)
				}
			}
		})
	}
	done.Wait()
}

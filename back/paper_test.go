package back_test

import (
	"slices"
	"strconv"
	"testing"

	"scullery/api"
	"scullery/back"
)

// step is one Set, or one Clear of the page.
type step struct {
	isClear bool
	page    int
	addr    uint64
}

// paper is a back of so many pages as the document words it, with nothing shared with the program: it keeps each step that went well, and reckons from them alone, whenever it is asked.
type paper struct {
	pages int
	did   []step
}

// of answers whose a page is, and whether it is somebody's.
func (p *paper) of(page int) (uint64, bool) {
	for i := len(p.did) - 1; i >= 0; i-- {
		if s := p.did[i]; s.page == page {
			return s.addr, !s.isClear
		}
	}
	return 0, false
}

// somebodys answers the pages from one to below another that are somebody's, rising, and whose they are.
func (p *paper) somebodys(from, to int) ([]int, []uint64) {
	var pages []int
	for _, s := range p.did {
		if _, is := p.of(s.page); is && from <= s.page && s.page < to {
			pages = append(pages, s.page)
		}
	}
	slices.Sort(pages)
	pages = slices.Compact(pages)
	var addrs []uint64
	for _, page := range pages {
		addr, _ := p.of(page)
		addrs = append(addrs, addr)
	}
	return pages, addrs
}

// code answers what is wrong with a step.
func (p *paper) code(s step) api.Errno {
	if s.page < 0 || s.page >= p.pages {
		return api.ErrInvalid
	}
	_, is := p.of(s.page)
	switch {
	case is && !s.isClear:
		return api.ErrState
	case !is && s.isClear:
		return api.ErrNone
	}
	return api.OK
}

// do answers the code that a step is to have, and keeps one that is to go well.
func (p *paper) do(s step) api.Errno {
	code := p.code(s)
	if code == api.OK {
		if s.isClear {
			s.addr = 0
		}
		p.did = append(p.did, s)
	}
	return code
}

// wantStep does a step, and fails, if it tells something else than the paper.
func wantStep(t *testing.T, what string, b *back.Back, p *paper, s step) {
	t.Helper()
	if s.isClear {
		wantCode(t, what+": Clear("+strconv.Itoa(s.page)+")", b.Clear(s.page), p.do(s))
		return
	}
	wantCode(t, what+": Set("+strconv.Itoa(s.page)+")", b.Set(s.page, s.addr), p.do(s))
}

// wantPaper fails, if a back tells something else than the paper: of each page and of those beside them, of all, and of parts by these ends, each against each.
func wantPaper(t *testing.T, what string, b *back.Back, p *paper, ends ...int) {
	t.Helper()
	for page := -2; page < p.pages+2; page++ {
		addr, is := p.of(page)
		wantOf(t, what, b, page, addr, is)
	}
	pages, _ := p.somebodys(0, p.pages)
	wantPages(t, what, b, pages...)
	for _, from := range ends {
		for _, to := range ends {
			_, addrs := p.somebodys(from, to)
			wantRange(t, what, b, from, to, addrs...)
		}
	}
}

// P14.1: all scripts of four steps over three pages and one beside them at each end, with two addresses; all calls are asked behind each.
func TestShortScripts(t *testing.T) {
	const pages = 3
	var steps []step
	var ends []int
	for page := -1; page <= pages; page++ {
		steps = append(steps, step{page: page}, step{page: page, addr: greatest}, step{isClear: true, page: page})
		ends = append(ends, page)
	}
	var play func(script []step)
	play = func(script []step) {
		b, p := made(t, pages), &paper{pages: pages}
		what := "step " + strconv.Itoa(len(script))
		for _, s := range script {
			wantStep(t, what, b, p, s)
		}
		wantPaper(t, what, b, p, ends...)
		if len(script) == 4 || t.Failed() {
			return
		}
		for _, s := range steps {
			play(append(slices.Clone(script), s))
		}
	}
	play(nil)
}

// P14.1: long scripts over few pages and many, so that pages are somebody's, then nobody's, then somebody's again.
func TestLongScripts(t *testing.T) {
	for _, pages := range []int{1, 2, 7, 64, 255, 256} {
		b, p, roll := made(t, pages), &paper{pages: pages}, rolls(uint64(pages))
		for i := range 1500 {
			s := step{page: roll(pages+2) - 1, addr: uint64(roll(5)) << (8 * roll(8))}
			// Rather sets for a while, then rather clears.
			s.isClear = roll(10) < 2+6*(i/250%2)
			what := strconv.Itoa(pages) + " pages, step " + strconv.Itoa(i)
			wantStep(t, what, b, p, s)
			addr, is := p.of(s.page)
			wantOf(t, what, b, s.page, addr, is)
			if i%113 == 0 {
				wantPaper(t, what, b, p, 0, roll(pages+1), roll(pages+1), pages)
			}
		}
	}
}

// rolls answers numbers from 0 to below what is asked for, the same ones for the same seed.
func rolls(seed uint64) func(below int) int {
	n := seed
	return func(below int) int {
		n = n*6364136223846793005 + 1442695040888963407
		return int(n >> 33 % uint64(below))
	}
}

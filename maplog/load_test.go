package maplog_test

import (
	"math"
	"reflect"
	"slices"
	"strconv"
	"testing"

	"scullery/api"
	"scullery/maplog"
	"scullery/nand"
	"scullery/seg"
	"scullery/store"
)

// wantNone fails, if Load finds a checkpoint, or changes anything.
func wantNone(t *testing.T, what string, s *store.Store) {
	t.Helper()
	was := headsOf(s)
	l, e := maplog.Load(s)
	wantCode(t, what, e, api.ErrNone)
	if l != nil {
		t.Errorf("%s: %+v beside an error", what, faceOf(l))
	}
	if !reflect.DeepEqual(headsOf(s), was) {
		t.Errorf("%s: needed are %v, not %v", what, headsOf(s), was)
	}
}

// wantLoad fails, if Load does not answer a log of this label, Gen and entries; so it must tell behind a crash, too.
func wantLoad(t *testing.T, what string, s *store.Store, name string, gen int, es []api.Entry) {
	t.Helper()
	for range 2 {
		was := headsOf(s)
		programs := s.Chip().Programs()
		l := loaded(t, s)
		if l.Label() != name || l.Gen() != gen || l.Store() != s {
			t.Errorf("%s: %q, Gen %d, not %q, %d", what, l.Label(), l.Gen(), name, gen)
		}
		wantEntries(t, what, l, es)
		wantSwept(t, what, l, was)
		if s.Chip().Programs() != programs || s.Chip().Misuse() != 0 {
			t.Errorf("%s: a page was programmed", what)
		}
		s = rebooted(t, s.Chip())
	}
}

// wantSwept fails, if of the pages that were needed ahead of a Load not just these still are: the log's own, and blocks that its entries name.
func wantSwept(t *testing.T, what string, l *maplog.Log, was map[int]api.Head) {
	t.Helper()
	want, own := map[int]api.Head{}, 0
	for page, h := range was {
		isNamed := slices.ContainsFunc(l.Entries(), func(e api.Entry) bool { return e.Page == page })
		isKind := h.Kind == api.KindNote || h.Kind == api.KindSeg
		if isKind && h.Gen == l.Gen() {
			own++
		}
		if isKind && h.Gen == l.Gen() || !isKind && isNamed {
			want[page] = h
		}
	}
	if got := headsOf(l.Store()); !reflect.DeepEqual(got, want) || l.Pages() != own {
		t.Errorf("%s: Pages %d, needed are %v, not %d, %v", what, l.Pages(), got, own, want)
	}
}

// P17.3: Load of no store, and of stores without a checkpoint that is whole, whatever else stands there.
func TestLoadOfNone(t *testing.T) {
	l, e := maplog.Load(nil)
	wantCode(t, "Load of no store", e, api.ErrNil)
	if l != nil {
		t.Errorf("Load of no store: %v", l)
	}
	es := entriesOf(ats(2*each+1, 5, 9)...)
	for i, fill := range []func(s *store.Store){
		func(s *store.Store) {},
		func(s *store.Store) { block(t, s, 9) },
		func(s *store.Store) { noted(t, s, 1, 1, at(1, 1, true)) },
		func(s *store.Store) { puts(t, s, api.Head{Kind: api.KindSeg, Seq: 1, Gen: 1}, some(size, 1)) },
		func(s *store.Store) { puts(t, s, api.Head{Kind: api.KindSeg, Seq: 1}, make([]byte, size)) },
		func(s *store.Store) { parted(t, s, "a", es, 3, 1, 0, 1) },
		func(s *store.Store) { parted(t, s, "a", es, 3, 1, 1, 2) },
		func(s *store.Store) { parted(t, s, "a", es, 3, 1, 0, 2) },
		func(s *store.Store) { parted(t, s, "a", es, 3, 1, 0, 1, 1, 2) },
		func(s *store.Store) { parted(t, s, "a", es, 3, 1, 0, 1, 2, 0) },
		func(s *store.Store) { parted(t, s, "a", es, 3, 1, 0, 1); parted(t, s, "b", es, 3, 3, 2) },
		func(s *store.Store) { parted(t, s, "a", es, 3, 1, 0, 1); parted(t, s, "a", es, 4, 3, 2) },
		func(s *store.Store) { parted(t, s, "a", es, 3, 1, 0, 1); parted(t, s, "a", es[1:], 3, 3, 1) },
		func(s *store.Store) {
			parted(t, s, "a", es, 3, 1, 0, 1, 2)
			puts(t, s, api.Head{Kind: api.KindSeg, Seq: 9, Gen: 3}, some(size, 1))
		},
		func(s *store.Store) {
			parts, _ := seg.Cut(size, "a")
			puts(t, s, api.Head{Kind: api.KindNote, Seq: 1, Gen: 1}, parts[0])
			puts(t, s, api.Head{Kind: api.KindData, Seq: 1, Gen: 1}, parts[0])
			puts(t, s, api.Head{Kind: api.KindClean, Seq: 1, Gen: 1}, parts[0])
		},
	} {
		s := over(t, chip(t, small()))
		fill(s)
		wantNone(t, "the "+strconv.Itoa(i)+"-th", s)
		wantNone(t, "the "+strconv.Itoa(i)+"-th, behind a crash", rebooted(t, s.Chip()))
	}
}

// P17.3: a checkpoint of no entries, of several parts, of any Gen, whose parts stand in any places, between other pages.
func TestLoad(t *testing.T) {
	es := entriesOf(ats(2*each+1, 5, 9)...)
	for i, x := range []struct {
		es    []api.Entry
		gen   int
		which []int
	}{
		{nil, 1, []int{0}},
		{nil, 0, []int{0}},
		{nil, greatestGen, []int{0}},
		{es[:1], 5, []int{0}},
		{es[:each], 5, []int{0}},
		{es[:each+1], 5, []int{1, 0}},
		{es, 5, []int{0, 1, 2}},
		{es, 5, []int{0, 2, 1}},
		{es, 5, []int{1, 0, 2}},
		{es, 0, []int{1, 2, 0}},
		{es, 5, []int{2, 0, 1}},
		{es, greatestGen, []int{2, 1, 0}},
	} {
		what := "the " + strconv.Itoa(i) + "-th"
		s := over(t, chip(t, small()))
		for seq, part := range x.which {
			parted(t, s, "\u65e5-1", x.es, x.gen, 100-seq, part)
			block(t, s, 77)
		}
		wantLoad(t, what, s, "\u65e5-1", x.gen, x.es)
	}
	many := entriesOf(ats(mostEntries, 5, 0)...)
	s := over(t, chip(t, large()))
	var turned []int
	for part := range 19 {
		turned = append(turned, part*7%19)
	}
	parted(t, s, "a", many, 1, 1, turned...)
	wantLoad(t, "as many as there may be", s, "a", 1, many)
}

// P17.3: of several checkpoints the whole one of the greatest Gen counts, wherever they stand, and whatever their Seqs are; of one that lacks a part, or has one twice, nothing.
func TestLoadNewest(t *testing.T) {
	a, b, c := entriesOf(ats(2*each, 5, 9)...), entriesOf(ats(2*each+1, 500, 0)...), entriesOf(at(1, 1, true))
	for i, x := range []struct {
		fill func(s *store.Store)
		name string
		gen  int
		es   []api.Entry
	}{
		{func(s *store.Store) { parted(t, s, "a", a, 3, 1, 0, 1); parted(t, s, "b", b, 4, 9, 0, 1, 2) }, "b", 4, b},
		{func(s *store.Store) { parted(t, s, "b", b, 4, 1, 0, 1, 2); parted(t, s, "a", a, 3, 9, 0, 1) }, "b", 4, b},
		{func(s *store.Store) { parted(t, s, "a", a, 3, 1, 0, 1); parted(t, s, "b", b, 4, 9, 0, 1) }, "a", 3, a},
		{func(s *store.Store) { parted(t, s, "a", a, 3, 1, 0, 1); parted(t, s, "b", b, 4, 9, 1, 2) }, "a", 3, a},
		{func(s *store.Store) { parted(t, s, "a", a, 3, 1, 0, 1); parted(t, s, "b", b, 4, 9, 0, 1, 2, 2) }, "a", 3, a},
		{func(s *store.Store) { parted(t, s, "a", a, 3, 1, 1); parted(t, s, "b", b, 4, 9, 0, 1, 2) }, "b", 4, b},
		{func(s *store.Store) {
			parted(t, s, "b", b, 9, 1, 2)
			parted(t, s, "b", b, 8, 2, 0, 1)
			parted(t, s, "c", c, 0, 4, 0)
			parted(t, s, "b", b, 4, 9, 1)
			parted(t, s, "a", a, 3, 20, 1, 0)
			parted(t, s, "c", c, 2, 30, 0)
		}, "a", 3, a},
		{func(s *store.Store) { parted(t, s, "c", c, greatestGen, 1, 0); parted(t, s, "a", a, 256, 5, 0, 1) }, "c", greatestGen, c},
	} {
		what := "the " + strconv.Itoa(i) + "-th"
		s := over(t, chip(t, small()))
		x.fill(s)
		wantLoad(t, what, s, x.name, x.gen, x.es)
	}
}

// P17.3: behind a checkpoint that lacks a part the one before holds with its notes, and those of other Gens count for nothing.
func TestLoadNotesOfGen(t *testing.T) {
	a := entriesOf(ats(2*each, 5, 9)...)
	for _, isWhole := range []bool{false, true} {
		s := over(t, chip(t, small()))
		noted(t, s, 2, 50, at(90, 90, true), gone(5))
		parted(t, s, "a", a, 3, 1, 0, 1)
		noted(t, s, 3, 10, at(91, 91, true), gone(6))
		noted(t, s, 4, 11, at(92, 92, true), gone(7))
		noted(t, s, 0, 12, at(93, 93, true), gone(8))
		parted(t, s, "b", a[1:], 4, 20, 1)
		want, name, gen := behind(a, at(91, 91, true), gone(6)), "a", 3
		if isWhole {
			parted(t, s, "b", a[1:], 4, 21, 0)
			want, name, gen = behind(a[1:], at(92, 92, true), gone(7)), "b", 4
		}
		noted(t, s, 5, 12, at(94, 94, true), gone(9))
		wantLoad(t, "whole: "+strconv.FormatBool(isWhole), s, name, gen, want)
	}
}

// P17.3: notes are taken in the order of the Seqs of their pages, wherever these stand, ahead of the checkpoint, too, and within a page in their own; pages of notes that are none have none.
func TestLoadOrderOfNotes(t *testing.T) {
	pagesOf := [][]api.Note{
		{at(1, 10, true), at(2, 20, true)},
		{gone(1), at(2, 21, false), at(4, 40, true)},
		{at(1, 11, false), gone(4), at(1, 12, true)},
		{gone(2), gone(2), at(4, 41, true), at(3, 20, false)},
	}
	first := entriesOf(at(1, 1, true), at(2, 2, true), at(3, 3, true))
	want := first
	for _, ns := range pagesOf {
		want = behind(want, ns...)
	}
	orders := [][]int{{0, 1, 2, 3}, {3, 2, 1, 0}, {1, 3, 0, 2}, {2, 0, 3, 1}, {0, 2, 1, 3}}
	for _, order := range orders {
		for ahead := range 5 {
			s := over(t, chip(t, small()))
			for i, n := range order {
				if i == ahead {
					parted(t, s, "a", first, 7, 300, 0)
				}
				// Seqs of several bytes, of which each is greater in some page.
				noted(t, s, 7, 200+n*n*100, pagesOf[n]...)
				puts(t, s, api.Head{Kind: api.KindNote, Seq: 201 + n*n*100, Gen: 7}, some(size, n))
			}
			if ahead == 4 {
				parted(t, s, "a", first, 7, 300, 0)
			}
			wantLoad(t, "order", s, "a", 7, want)
		}
	}
}

// P17.3: what is not the log's own, and no entry names, is dropped: blocks, dirty and clean; and what an entry names, if it is of the log's kinds, but not its own.
func TestLoadDrops(t *testing.T) {
	s := over(t, chip(t, small()))
	named := []int{
		block(t, s, 1),
		puts(t, s, api.Head{Kind: api.KindClean, Addr: 2, Seq: 9, Gen: 9}, some(size, 2)),
		noted(t, s, 6, 1, at(50, 50, true)),
		puts(t, s, api.Head{Kind: api.KindSeg, Seq: 9, Gen: 6}, some(size, 2)),
		noted(t, s, 7, 2, at(60, 60, true)),
	}
	for i := range 5 {
		block(t, s, 1)
		puts(t, s, api.Head{Kind: api.KindClean, Addr: uint64(i), Seq: 9, Gen: 7}, some(size, 2))
	}
	var es []api.Entry
	for i, page := range named {
		es = append(es, api.Entry{Addr: uint64(i), Page: page, Dirty: i%2 == 0, Seq: 1 + i})
	}
	parted(t, s, "a", es, 7, 100, 0)
	l := loaded(t, s)
	wantEntries(t, "drops", l, behind(es, at(60, 60, true)))
	for i, page := range named {
		if _, is := s.Head(page); is != (i < 2 || i == 4) {
			t.Errorf("the %d-th page that is named is needed: %v", i, is)
		}
	}
	if len(s.Needed()) != 4 || l.Pages() != 2 {
		t.Errorf("needed are %v, Pages %d", s.Needed(), l.Pages())
	}
	wantLoad(t, "drops", rebooted(t, s.Chip()), "a", 7, l.Entries())
}

// P17.3: a block that a note gave up, or that moved, is dropped; one that is named by the notes alone stays.
func TestLoadDropsBehindNotes(t *testing.T) {
	s := over(t, chip(t, small()))
	l := formatted(t, s, "shelf")
	a, b, c, d := block(t, s, 1), block(t, s, 2), block(t, s, 3), block(t, s, 1)
	wantCommit(t, "first", l, at(1, a, true), at(2, b, true), at(3, c, false))
	wantCode(t, "Check", l.Check(), api.OK)
	wantCommit(t, "then", l, at(1, d, true), gone(2))
	x := loaded(t, rebooted(t, s.Chip()))
	wantEntries(t, "then", x, entriesOf(at(1, d, true), at(3, c, false)))
	for page, want := range map[int]bool{a: false, b: false, c: true, d: true} {
		if _, is := x.Store().Head(page); is != want {
			t.Errorf("page %d is needed: %v", page, is)
		}
	}
}

// P17.3: Get's error, in the dark, and where the power goes at each of its pages: nothing is dropped, and a later Load tells all.
func TestLoadInTheDark(t *testing.T) {
	es := entriesOf(ats(2*each+1, 5, 9)...)
	fill := func(c *nand.Chip) *store.Store {
		s := over(t, c)
		noted(t, s, 7, 9, at(90, 90, true))
		parted(t, s, "a", es, 7, 20, 1, 2, 0)
		noted(t, s, 7, 10, at(91, 91, true))
		parted(t, s, "b", es, 8, 30, 0, 2)
		noted(t, s, 8, 11, at(92, 92, true))
		block(t, s, 44)
		return s
	}
	want := behind(es, at(90, 90, true), at(91, 91, true))
	off := fill(chip(t, small()))
	before := off.Chip().Ops()
	off.Chip().Off()
	wantDarkLoad(t, "off", off)
	reads := 0
	for {
		what := "read " + strconv.Itoa(reads+1)
		s := fill(chip(t, small(), api.Mishap{At: before + reads + 1, Kind: api.Dark}))
		if l, e := maplog.Load(s); e == nil && s.Chip().On() {
			wantEntries(t, "behind all reads", l, want)
			break
		}
		s = fill(chip(t, small(), api.Mishap{At: before + reads + 1, Kind: api.Dark}))
		wantDarkLoad(t, what, s)
		wantLoad(t, what, rebooted(t, s.Chip()), "a", 7, want)
		reads++
	}
	if reads < 7 {
		t.Errorf("a Load of two checkpoints of five parts, and of two pages of notes, reads %d pages", reads)
	}
	dark := over(t, chip(t, small()))
	dark.Chip().Off()
	wantNone(t, "nothing in the dark", dark)
}

// wantDarkLoad fails, if Load does not answer ErrDark, or changes anything.
func wantDarkLoad(t *testing.T, what string, s *store.Store) {
	t.Helper()
	was := headsOf(s)
	l, e := maplog.Load(s)
	wantCode(t, what, e, api.ErrDark)
	if l != nil || !reflect.DeepEqual(headsOf(s), was) {
		t.Errorf("%s: %v, needed are %v, not %v", what, l, headsOf(s), was)
	}
}

// P17.3, P17.2: a log that was loaded goes on: with notes of its Gen, and with a Check that drops what Load took.
func TestLoadGoesOn(t *testing.T) {
	l := begun(t, small(), ats(7, 10, 10)...)
	want := l.Entries()
	for i := range 12 {
		gen := l.Gen()
		l = loaded(t, rebooted(t, l.Store().Chip()))
		ns := []api.Note{at(uint64(i), 100+i, true), gone(uint64(10 + i))}
		want = behind(want, ns...)
		wantCommit(t, "goes on", l, ns...)
		if i%3 == 2 {
			wantCode(t, "Check", l.Check(), api.OK)
			wantParts(t, "Check", l, want)
			if l.Gen() <= gen || len(l.Store().Needed()) != seg.Parts(size, len(want)) {
				t.Errorf("turn %d: Gen %d behind %d, needed are %v", i, l.Gen(), gen, l.Store().Needed())
			}
		} else if l.Gen() != gen {
			t.Errorf("turn %d: Gen %d, not %d", i, l.Gen(), gen)
		}
		wantEntries(t, "goes on", l, want)
	}
}

// P17.4: Entries rise; Find of the first, the last, a missing address, 0 and the greatest one; Gen, Label, Store and Pages.
func TestTells(t *testing.T) {
	l := begun(t, large())
	for _, addr := range []uint64{0, 5, math.MaxUint64} {
		if e, ok := l.Find(addr); e != (api.Entry{}) || ok {
			t.Errorf("Find(%d) of none: %v, %v", addr, e, ok)
		}
	}
	var ns []api.Note
	for i := range 200 {
		ns = append(ns, at(uint64(i+1)*0x9E3779B97F4A7C15, i, i%2 == 0))
	}
	wantCommit(t, "tells", l, ns...)
	es := l.Entries()
	if !slices.IsSortedFunc(es, func(a, b api.Entry) int {
		if a.Addr < b.Addr {
			return -1
		}
		return 1
	}) {
		t.Errorf("Entries: %v", es)
	}
	wantEntries(t, "tells", l, entriesOf(ns...))
	first, last := es[0].Addr, es[len(es)-1].Addr
	for _, addr := range []uint64{0, first - 1, first + 1, last - 1, last + 1, math.MaxUint64} {
		if e, ok := l.Find(addr); e != (api.Entry{}) || ok {
			t.Errorf("Find(%d): %v, %v", addr, e, ok)
		}
	}
	edges := []api.Note{at(0, 250, false), at(math.MaxUint64, 251, true)}
	wantCommit(t, "tells", l, edges...)
	wantEntries(t, "edges", l, behind(es, edges...))
	notes := len(owns(l.Store(), api.KindNote, l.Gen()))
	if l.Pages() != 1+notes || l.Label() != "shelf" || l.Gen() < 1 {
		t.Errorf("Pages %d, %q, Gen %d", l.Pages(), l.Label(), l.Gen())
	}
	ops := l.Store().Chip().Ops()
	l.Store().Chip().Off()
	wantEntries(t, "in the dark", l, behind(es, edges...))
	if l.Pages() != 1+notes || l.Label() != "shelf" || l.Number() < 1 || l.Store().Chip().Ops() != ops {
		t.Error("in the dark: something else")
	}
}

// R3: each method of a nil log.
func TestNilLog(t *testing.T) {
	var l *maplog.Log
	wantCode(t, "Commit", l.Commit(at(1, 1, true)), api.ErrNil)
	wantCode(t, "Commit", l.Commit(), api.ErrNil)
	wantCode(t, "Commit", l.Commit(api.Note{}), api.ErrNil)
	wantCode(t, "Check", l.Check(), api.ErrNil)
	e, ok := l.Find(0)
	if l.Number() != 0 || l.Gen() != 0 || l.Pages() != 0 || l.Label() != "" || l.Store() != nil || len(l.Entries()) != 0 || e != (api.Entry{}) || ok {
		t.Error("a nil log tells something")
	}
}

// R4: notes that are handed in are neither changed nor kept, their spare room neither; Entries' answers share nothing.
func TestSharesNothing(t *testing.T) {
	l := begun(t, small())
	room := ats(40, 1, 1)
	ns := room[:35:40]
	was := slices.Clone(room)
	wantCommit(t, "shares", l, ns...)
	if !slices.Equal(room, was) {
		t.Errorf("notes were changed: %v", room)
	}
	for i := range room {
		room[i] = api.Note{}
	}
	want := entriesOf(was[:35]...)
	wantEntries(t, "notes that are changed", l, want)
	es := l.Entries()
	for i := range es {
		es[i] = api.Entry{}
	}
	_ = append(es[:0], make([]api.Entry, cap(es))...)
	wantEntries(t, "entries that are changed", l, want)
	wantCode(t, "Check", l.Check(), api.OK)
	wantEntries(t, "behind a Check", loaded(t, over(t, l.Store().Chip())), want)
}

// R5: the same calls on two stores that are the same answer the same; and calls that answer an error, and put nothing, change nothing that is told later.
func TestSameCalls(t *testing.T) {
	a, b := begun(t, small()), begun(t, small())
	for i := range 12 {
		switch i % 4 {
		case 0:
			wantCode(t, "Commit", b.Commit(api.Note{}), api.ErrInvalid)
			if l, e := maplog.Format(b.Store(), "-"); l != nil || api.Code(e) != api.ErrInvalid {
				t.Errorf("Format: %v", e)
			}
		case 1:
			wantCode(t, "Commit", b.Commit(at(77, 1, true), at(78, 1, true)), api.ErrInvalid)
		case 3:
			junk, same := filled(t, b.Store(), 0), filled(t, a.Store(), 0)
			wantCode(t, "Commit", b.Commit(gone(1)), api.ErrFull)
			wantCode(t, "Check", b.Check(), api.ErrFull)
			dropped(t, b.Store(), junk)
			dropped(t, a.Store(), same)
		}
		for _, l := range []*maplog.Log{a, b} {
			wantCommit(t, "same", l, ats(5, uint64(10*i), 10*i)...)
			if i%3 == 0 {
				wantCode(t, "Check", l.Check(), api.OK)
			}
		}
		if x, y := a.Number(), b.Number(); x != y {
			t.Errorf("Number: %d, %d", x, y)
		}
		wantFace(t, "same", b, faceOf(a))
	}
}

// R6: the error that the chapter names first.
func TestFirstError(t *testing.T) {
	l := begun(t, small(), at(1, 1, true))
	filled(t, l.Store(), 0)
	wantCode(t, "Commit: invalid, and full", l.Commit(at(2, 1, true)), api.ErrInvalid)
	l.Store().Chip().Off()
	wantCode(t, "Commit: invalid, and dark", l.Commit(at(2, 2, true), api.Note{}), api.ErrInvalid)
	wantCode(t, "Commit: dark, and full", l.Commit(at(2, 2, true)), api.ErrDark)
	wantCode(t, "Check: dark, and full", l.Check(), api.ErrDark)
	for _, x := range []struct {
		s    *store.Store
		name string
		want api.Errno
	}{{nil, "", api.ErrNil}, {nil, "-", api.ErrNil}, {l.Store(), "-", api.ErrInvalid}} {
		got, e := maplog.Format(x.s, x.name)
		wantCode(t, "Format of "+strconv.Quote(x.name), e, x.want)
		if got != nil {
			t.Errorf("Format of %q: %v", x.name, got)
		}
	}
}

package maplog_test

import (
	"bytes"
	"math"
	"reflect"
	"slices"
	"strconv"
	"testing"

	"scullery/api"
	"scullery/head"
	"scullery/maplog"
	"scullery/nand"
	"scullery/note"
	"scullery/seg"
	"scullery/store"
)

// The document's limits, in its own numbers.
const greatestSeq, greatestGen, mostEntries = 1<<40 - 1, 1<<24 - 1, 256

// The geometry of most chips here; a part of its size has five entries.
const blocks, pages, size, each = 16, 4, 128, 5

// small is that geometry.
func small() api.Geometry { return api.Geometry{Blocks: blocks, Pages: pages, Size: size} }

// large is the greatest one.
func large() api.Geometry { return api.Geometry{Blocks: 32, Pages: 8, Size: 256} }

// some are so many bytes that a number tells.
func some(many, seed int) []byte {
	out := make([]byte, many)
	for i := range out {
		out[i] = byte((i*i + i*(2*seed+1) + 11*seed + 5) % 251)
	}
	return out
}

// at is a note that a block stands on a page.
func at(addr uint64, page int, dirty bool) api.Note {
	return api.Note{Entry: api.Entry{Addr: addr, Page: page, Dirty: dirty, Seq: 1 + page%90}}
}

// gone is a note that a block is there no more.
func gone(addr uint64) api.Note {
	return api.Note{Gone: true, Entry: api.Entry{Addr: addr, Seq: 7}}
}

// ats are notes of so many blocks from an address on, on as many pages from a page on.
func ats(many int, addr uint64, page int) []api.Note {
	var ns []api.Note
	for i := range many {
		ns = append(ns, at(addr+uint64(i), page+i, i%3 == 0))
	}
	return ns
}

// goners are notes that so many blocks from an address on are there no more.
func goners(many int, addr uint64) []api.Note {
	var ns []api.Note
	for i := range many {
		ns = append(ns, gone(addr+uint64(i)))
	}
	return ns
}

// behind are the entries behind notes, by rising Addrs.
func behind(es []api.Entry, ns ...api.Note) []api.Entry {
	all := map[uint64]api.Entry{}
	for _, e := range es {
		all[e.Addr] = e
	}
	for _, n := range ns {
		delete(all, n.Entry.Addr)
		if !n.Gone {
			all[n.Entry.Addr] = n.Entry
		}
	}
	var out []api.Entry
	for _, e := range all {
		out = append(out, e)
	}
	slices.SortFunc(out, func(a, b api.Entry) int {
		if a.Addr < b.Addr {
			return -1
		}
		return 1
	})
	return out
}

// chip answers a chip, and fails, if there is none.
func chip(t *testing.T, g api.Geometry, ms ...api.Mishap) *nand.Chip {
	t.Helper()
	c := nand.New(g, nil, ms...)
	if c == nil {
		t.Fatalf("nand.New(%v, %v): none", g, ms)
	}
	return c
}

// over answers a store over a chip, and fails, if there is none.
func over(t *testing.T, c *nand.Chip) *store.Store {
	t.Helper()
	s, e := store.New(c)
	if e != nil || s == nil {
		t.Fatalf("store.New: %v, %v", s, e)
	}
	return s
}

// formatted answers a new log in a store, and fails, if there is none.
func formatted(t *testing.T, s *store.Store, name string) *maplog.Log {
	t.Helper()
	l, e := maplog.Format(s, name)
	if e != nil || l == nil {
		t.Fatalf("Format: %v, %v", l, e)
	}
	return l
}

// begun answers a new log on a new chip, to which notes were committed.
func begun(t *testing.T, g api.Geometry, ns ...api.Note) *maplog.Log {
	t.Helper()
	l := formatted(t, over(t, chip(t, g)), "shelf")
	wantCommit(t, "begun", l, ns...)
	return l
}

// rebooted answers a new store behind a crash.
func rebooted(t *testing.T, c *nand.Chip) *store.Store {
	t.Helper()
	c.Off()
	wantCode(t, "Boot", c.Boot(), api.OK)
	return over(t, c)
}

// loaded answers the log of a store, and fails, if there is none.
func loaded(t *testing.T, s *store.Store) *maplog.Log {
	t.Helper()
	l, e := maplog.Load(s)
	if e != nil || l == nil {
		t.Fatalf("Load: %v, %v", l, e)
	}
	return l
}

// wantCode fails, if an error is none of that code: an *api.Wrong, not wrapped, or nil.
func wantCode(t *testing.T, what string, e error, want api.Errno) {
	t.Helper()
	if want == api.OK {
		if e != nil {
			t.Errorf("%s: %v (%T)", what, e, e)
		}
		return
	}
	if w, ok := e.(*api.Wrong); !ok || w == nil || w.Code != want {
		t.Errorf("%s: %v (%T), not %d", what, e, e, want)
	}
}

// wantCommit fails, if a Commit does not go well.
func wantCommit(t *testing.T, what string, l *maplog.Log, ns ...api.Note) {
	t.Helper()
	wantCode(t, what+": Commit", l.Commit(ns...), api.OK)
}

// wantEntries fails, if a log tells other entries, by whatever call.
func wantEntries(t *testing.T, what string, l *maplog.Log, want []api.Entry) {
	t.Helper()
	if got := l.Entries(); !slices.Equal(got, want) {
		t.Errorf("%s: Entries: %v, not %v", what, got, want)
	}
	for _, e := range want {
		if got, ok := l.Find(e.Addr); got != e || !ok {
			t.Errorf("%s: Find(%d): %v, %v, not %v", what, e.Addr, got, ok, e)
		}
	}
}

// headsOf are the heads of all pages that a store needs.
func headsOf(s *store.Store) map[int]api.Head {
	out := map[int]api.Head{}
	for _, page := range s.Needed() {
		out[page], _ = s.Head(page)
	}
	return out
}

// face is what a log, and its store, tell without an operation, but for Number, which is another one each time.
type face struct {
	Label      string
	Gen, Pages int
	Entries    []api.Entry
	Heads      map[int]api.Head
}

// faceOf answers a log's face.
func faceOf(l *maplog.Log) face {
	return face{l.Label(), l.Gen(), l.Pages(), l.Entries(), headsOf(l.Store())}
}

// wantFace fails, if a log's face is another one.
func wantFace(t *testing.T, what string, l *maplog.Log, want face) {
	t.Helper()
	if got := faceOf(l); !reflect.DeepEqual(got, want) {
		t.Errorf("%s: %v, not %v", what, got, want)
	}
}

// owns are the pages of a kind and a Gen, in the order of their Seqs.
func owns(s *store.Store, kind, gen int) []int {
	var out []int
	heads := headsOf(s)
	for page, h := range heads {
		if h.Kind == kind && h.Gen == gen {
			out = append(out, page)
		}
	}
	slices.SortFunc(out, func(a, b int) int { return heads[a].Seq - heads[b].Seq })
	return out
}

// onChip are all whole heads on a chip, needed or not.
func onChip(t *testing.T, c *nand.Chip) []api.Head {
	t.Helper()
	var out []api.Head
	for b := range c.Geometry().Blocks {
		for k := range c.Geometry().Pages {
			raw, e := c.Read(b, k)
			if e != nil {
				t.Fatalf("Read: %v", e)
			}
			if _, h, state := head.Read(raw); state == api.Valid {
				out = append(out, h)
			}
		}
	}
	return out
}

// greatest are the greatest Seq and Gen of heads.
func greatest(hs []api.Head) (int, int) {
	seq, gen := 0, 0
	for _, h := range hs {
		seq, gen = max(seq, h.Seq), max(gen, h.Gen)
	}
	return seq, gen
}

// dataOf are the bytes of a page, and fails, if it can't be read.
func dataOf(t *testing.T, s *store.Store, page int) []byte {
	t.Helper()
	data, _, e := s.Get(page)
	if e != nil {
		t.Fatalf("Get(%d): %v", page, e)
	}
	return data
}

// wantParts fails, if a log's checkpoint is not, part by part in the order of their Seqs, that of its label and these entries.
func wantParts(t *testing.T, what string, l *maplog.Log, es []api.Entry) {
	t.Helper()
	s := l.Store()
	parts, e := seg.Cut(s.Chip().Geometry().Size, l.Label(), es...)
	wantCode(t, what+": Cut", e, api.OK)
	own := owns(s, api.KindSeg, l.Gen())
	if len(own) != len(parts) {
		t.Fatalf("%s: %d parts, not %d", what, len(own), len(parts))
	}
	for i, page := range own {
		if !bytes.Equal(dataOf(t, s, page), parts[i]) {
			t.Errorf("%s: page %d is not part %d", what, page, i)
		}
	}
}

// wantNotes fails, if a log's pages of notes are not, in the order of their Seqs, these.
func wantNotes(t *testing.T, what string, l *maplog.Log, want ...[]api.Note) {
	t.Helper()
	s := l.Store()
	own := owns(s, api.KindNote, l.Gen())
	if len(own) != len(want) {
		t.Fatalf("%s: %d pages of notes, not %d", what, len(own), len(want))
	}
	for i, page := range own {
		if ns, e := note.Read(dataOf(t, s, page)); e != nil || !slices.Equal(ns, want[i]) {
			t.Errorf("%s: page %d: %v, %v, not %v", what, page, ns, e, want[i])
		}
	}
}

// puts puts a page that is not the log's, and answers its number.
func puts(t *testing.T, s *store.Store, h api.Head, data []byte) int {
	t.Helper()
	page, e := s.Put(h, data)
	if e != nil {
		t.Fatalf("Put(%v): %v", h, e)
	}
	return page
}

// block puts a block that nobody asks for, and answers its page.
func block(t *testing.T, s *store.Store, addr uint64) int {
	t.Helper()
	return puts(t, s, api.Head{Kind: api.KindData, Addr: addr, Seq: 1}, some(s.Chip().Geometry().Size, 3))
}

// filled puts blocks till a store has so much room left, and answers their pages.
func filled(t *testing.T, s *store.Store, room int) []int {
	t.Helper()
	var out []int
	for s.Room() > room {
		out = append(out, block(t, s, uint64(len(out))))
	}
	if s.Room() != room {
		t.Fatalf("Room: %d, not %d", s.Room(), room)
	}
	return out
}

// dropped drops pages.
func dropped(t *testing.T, s *store.Store, which []int) {
	t.Helper()
	for _, page := range which {
		wantCode(t, "Drop", s.Drop(page), api.OK)
	}
}

// parted puts the parts of a checkpoint: those of the numbers that are told, in their order, each with a Seq of its own from one on.
func parted(t *testing.T, s *store.Store, name string, es []api.Entry, gen, seq int, which ...int) {
	t.Helper()
	parts, e := seg.Cut(s.Chip().Geometry().Size, name, es...)
	wantCode(t, "Cut", e, api.OK)
	for i, n := range which {
		puts(t, s, api.Head{Kind: api.KindSeg, Seq: seq + i, Gen: gen}, parts[n])
	}
}

// noted puts a page of notes.
func noted(t *testing.T, s *store.Store, gen, seq int, ns ...api.Note) int {
	t.Helper()
	data, e := note.Lay(s.Chip().Geometry().Size, ns...)
	wantCode(t, "Lay", e, api.OK)
	return puts(t, s, api.Head{Kind: api.KindNote, Seq: seq, Gen: gen}, data)
}

// entriesOf are the entries of notes on a log that has none.
func entriesOf(ns ...api.Note) []api.Entry { return behind(nil, ns...) }

// The document's example: behind Format, Commit, New and Load there are the same entries.
func TestExample(t *testing.T) {
	c := chip(t, small())
	l, e := maplog.Format(over(t, c), "shelf")
	wantCode(t, "Format", e, api.OK)
	ns := []api.Note{at(300, 5, true), at(0, 6, false), at(math.MaxUint64, 60, true)}
	wantCode(t, "Commit", l.Commit(ns...), api.OK)
	s, e := store.New(c)
	wantCode(t, "New", e, api.OK)
	again, e := maplog.Load(s)
	wantCode(t, "Load", e, api.OK)
	wantEntries(t, "before", l, entriesOf(ns...))
	wantEntries(t, "behind", again, entriesOf(ns...))
}

// P17.1: Number is from 1 on, each one is greater than all before, and than the Seq of each page that the log put meanwhile; a page that is put next has a greater one.
func TestNumber(t *testing.T) {
	l := begun(t, small())
	last := 0
	for i := range 40 {
		n := l.Number()
		seq, _ := greatest(slices.Collect(valuesOf(headsOf(l.Store()))))
		if n < 1 || n <= last || n <= seq {
			t.Fatalf("Number: %d, behind %d, and %d in a head", n, last, seq)
		}
		last = n
		switch i % 4 {
		case 1:
			wantCommit(t, "Number", l, at(uint64(i), i, true))
		case 2:
			wantCode(t, "Check", l.Check(), api.OK)
		}
		for _, h := range headsOf(l.Store()) {
			if i%4 == 2 && h.Seq <= n {
				t.Errorf("behind Number %d: %v", n, h)
			}
		}
	}
}

// valuesOf goes through what stands in a map.
func valuesOf(m map[int]api.Head) func(func(api.Head) bool) {
	return func(yield func(api.Head) bool) {
		for _, h := range m {
			if !yield(h) {
				return
			}
		}
	}
}

// P17.1: behind a Load, and behind a Format, Number is greater than each Seq in a head that stood in the store: of blocks, named or not, of pages of other Gens, of pages of a block that is marked.
func TestNumberBehindOthers(t *testing.T) {
	const great = 70000
	for i, h := range []api.Head{
		{Kind: api.KindData, Addr: 4, Seq: great},
		{Kind: api.KindData, Addr: 99, Seq: great, Gen: 3},
		{Kind: api.KindClean, Addr: math.MaxUint64, Seq: great},
		{Kind: api.KindNote, Seq: great, Gen: 1},
		{Kind: api.KindNote, Seq: great, Gen: 8},
		{Kind: api.KindSeg, Seq: great, Gen: 8},
		{Kind: api.KindSeg, Seq: great},
	} {
		for _, isMarked := range []bool{false, true} {
			what := "the " + strconv.Itoa(i) + "-th"
			c := chip(t, small())
			s := over(t, c)
			l := formatted(t, s, "shelf")
			page := puts(t, s, h, some(size, i))
			wantCommit(t, what, l, at(4, page, true))
			if isMarked {
				wantCode(t, "Mark", c.Mark(page/pages), api.OK)
			}
			x := loaded(t, rebooted(t, c))
			last := great
			for range 5 {
				n := x.Number()
				if n <= last {
					t.Errorf("%s: Number: %d, behind %d", what, n, last)
				}
				last = n
			}
			if y := formatted(t, over(t, c), "other"); y.Number() <= great {
				t.Errorf("%s: Number behind a Format: not above %d", what, great)
			}
		}
	}
}

// P17.1: a page that others put meanwhile, and dropped again, too, has a lesser Seq than what Number tells then; and the log's own pages a greater one.
func TestNumberMeanwhile(t *testing.T) {
	for _, isDropped := range []bool{false, true} {
		l := begun(t, small())
		page := puts(t, l.Store(), api.Head{Kind: api.KindData, Seq: 5000}, some(size, 1))
		if isDropped {
			dropped(t, l.Store(), []int{page})
		}
		wantCommit(t, "meanwhile", l, gone(1))
		own := owns(l.Store(), api.KindNote, l.Gen())
		if h, _ := l.Store().Head(own[0]); h.Seq <= 5000 {
			t.Errorf("a page of notes has Seq %d", h.Seq)
		}
		if n := l.Number(); n <= 5000 {
			t.Errorf("Number: %d", n)
		}
	}
}

// P17.1: a checkpoint has a greater Gen than all that stood in a head, of whatever kind, named or not, behind a Format and behind a Load.
func TestGenBehindOthers(t *testing.T) {
	for i, h := range []api.Head{
		{Kind: api.KindData, Addr: 4, Seq: 1, Gen: 700},
		{Kind: api.KindClean, Addr: 99, Seq: 1, Gen: 700},
		{Kind: api.KindNote, Seq: 1, Gen: 700},
		{Kind: api.KindSeg, Seq: 1, Gen: 700},
	} {
		what := "the " + strconv.Itoa(i) + "-th"
		s := over(t, chip(t, small()))
		puts(t, s, h, some(size, i))
		l := formatted(t, s, "shelf")
		if l.Gen() <= 700 {
			t.Errorf("%s: Gen %d behind a Format", what, l.Gen())
		}
		h.Gen = 900
		puts(t, s, h, some(size, i))
		x := loaded(t, rebooted(t, s.Chip()))
		if x.Gen() != l.Gen() {
			t.Errorf("%s: Gen %d behind a Load, not %d", what, x.Gen(), l.Gen())
		}
		wantCode(t, what+": Check", x.Check(), api.OK)
		if x.Gen() <= 900 {
			t.Errorf("%s: Gen %d behind a Check", what, x.Gen())
		}
		h.Gen = 1000
		dropped(t, x.Store(), []int{puts(t, x.Store(), h, some(size, i))})
		wantCode(t, what+": Check", x.Check(), api.OK)
		if x.Gen() <= 1000 {
			t.Errorf("%s: Gen %d behind a page that was dropped", what, x.Gen())
		}
	}
}

// halfway answers a log whose Check of three parts came to nothing behind so many of them, for want of room, and what filled the store.
func halfway(t *testing.T, parts int) (*maplog.Log, []int) {
	t.Helper()
	l := begun(t, small(), ats(2*each+1, 10, 100)...)
	junk := filled(t, l.Store(), parts)
	wantCode(t, "Check", l.Check(), api.ErrFull)
	return l, junk
}

// P17.1: a checkpoint has a greater Gen than all that were put, also by a Check that came to nothing; so have those of another log that is made, or loaded, in that store, and what stands behind a crash is the newest one.
func TestGenBehindNothing(t *testing.T) {
	for parts := range 3 {
		for i, next := range []func(l *maplog.Log) (*maplog.Log, error){
			func(l *maplog.Log) (*maplog.Log, error) { return l, l.Check() },
			func(l *maplog.Log) (*maplog.Log, error) { return maplog.Format(l.Store(), "other") },
			func(l *maplog.Log) (*maplog.Log, error) {
				x, e := maplog.Load(l.Store())
				if e != nil {
					return nil, e
				}
				return x, x.Check()
			},
			func(l *maplog.Log) (*maplog.Log, error) {
				x, e := maplog.Load(rebooted(t, l.Store().Chip()))
				if e != nil {
					return nil, e
				}
				return x, x.Check()
			},
		} {
			what := strconv.Itoa(parts) + " parts, the " + strconv.Itoa(i) + "-th"
			l, junk := halfway(t, parts)
			c := l.Store().Chip()
			_, last := greatest(onChip(t, c))
			if last != l.Gen() && parts == 0 || last <= l.Gen() && parts > 0 {
				t.Errorf("%s: the greatest Gen is %d", what, last)
			}
			dropped(t, l.Store(), junk)
			x, e := next(l)
			wantCode(t, what, e, api.OK)
			if x.Gen() <= last {
				t.Errorf("%s: Gen %d, behind %d", what, x.Gen(), last)
			}
			y := loaded(t, rebooted(t, c))
			if y.Gen() != x.Gen() || y.Label() != x.Label() {
				t.Errorf("%s: Gen %d, %q behind a crash, not %d, %q", what, y.Gen(), y.Label(), x.Gen(), x.Label())
			}
			wantEntries(t, what, y, x.Entries())
		}
	}
}

// P17.1: nor does a Gen come again behind a Check at whose first, or later, part the power went.
func TestGenBehindDark(t *testing.T) {
	c := chip(t, small())
	wantCode(t, "Commit", formatted(t, over(t, c), "shelf").Commit(ats(2*each+1, 10, 100)...), api.OK)
	before := c.Ops()
	for part := range 3 {
		for _, there := range []int{0, 40, 9999} {
			what := "part " + strconv.Itoa(part) + ", " + strconv.Itoa(there) + " bytes"
			c := chip(t, small(), api.Mishap{At: before + 1 + part, Kind: api.Dark, Bytes: there})
			l := formatted(t, over(t, c), "shelf")
			wantCommit(t, what, l, ats(2*each+1, 10, 100)...)
			was := faceOf(l)
			wantCode(t, what, l.Check(), api.ErrDark)
			wantFace(t, what, l, was)
			x := loaded(t, rebooted(t, c))
			_, last := greatest(onChip(t, c))
			wantCode(t, what, x.Check(), api.OK)
			if x.Gen() <= last {
				t.Errorf("%s: Gen %d, behind %d", what, x.Gen(), last)
			}
			y := loaded(t, rebooted(t, c))
			if y.Gen() != x.Gen() {
				t.Errorf("%s: Gen %d behind a crash, not %d", what, y.Gen(), x.Gen())
			}
			wantEntries(t, what, y, was.Entries)
		}
	}
}

// P17.1: the log's own pages: their Kind, a Seq of their own, the Gen of their checkpoint, Addr 0.
func TestOwnPages(t *testing.T) {
	l := begun(t, small())
	seqs := map[int]int{}
	for i := range 6 {
		wantCommit(t, "own", l, append(ats(7, uint64(10*i), 10*i), goners(40, 1000)...)...)
		if i%2 == 1 {
			wantCode(t, "Check", l.Check(), api.OK)
		}
		parts, notes := 0, 0
		for page, h := range headsOf(l.Store()) {
			if h.Gen != l.Gen() || h.Addr != 0 || h.Seq < 1 {
				t.Errorf("page %d: %v, not of Gen %d", page, h, l.Gen())
			}
			switch h.Kind {
			case api.KindSeg:
				parts++
			case api.KindNote:
				notes++
			default:
				t.Errorf("page %d: %v", page, h)
			}
			if was, is := seqs[h.Seq]; is && was != page {
				t.Errorf("pages %d and %d have Seq %d", was, page, h.Seq)
			}
			seqs[h.Seq] = page
		}
		if parts+notes != l.Pages() || parts < 1 || i%2 == 1 && notes > 0 || i%2 == 0 && notes != 2 {
			t.Errorf("turn %d: %d parts, %d pages of notes, Pages %d", i, parts, notes, l.Pages())
		}
	}
}

// P17.1, at MaxSeq and MaxGen: these are told still, and put; of one past them the error is Put's, and nothing changes.
func TestLastNumbers(t *testing.T) {
	c := chip(t, small())
	s := over(t, c)
	parted(t, s, "shelf", entriesOf(at(1, 1, true)), greatestGen-1, 1, 0)
	puts(t, s, api.Head{Kind: api.KindData, Addr: 5, Seq: greatestSeq - 3}, some(size, 1))
	l := loaded(t, s)
	if n := l.Number(); n != greatestSeq-2 {
		t.Errorf("Number: %d", n)
	}
	wantCode(t, "Check", l.Check(), api.OK)
	if l.Gen() != greatestGen {
		t.Errorf("Gen: %d", l.Gen())
	}
	was := faceOf(l)
	wantCode(t, "Check past MaxGen", l.Check(), api.ErrInvalid)
	wantFace(t, "Check past MaxGen", l, was)
	wantCommit(t, "at MaxSeq", l, at(2, 2, false))
	was = faceOf(l)
	wantCode(t, "Commit past MaxSeq", l.Commit(at(3, 3, true)), api.ErrInvalid)
	wantFace(t, "Commit past MaxSeq", l, was)
	if a, b := l.Number(), l.Number(); a <= greatestSeq || b <= a {
		t.Errorf("Number past MaxSeq: %d, %d", a, b)
	}
	x := loaded(t, rebooted(t, c))
	if n := x.Number(); n <= greatestSeq {
		t.Errorf("Number behind MaxSeq: %d", n)
	}
	if l, e := maplog.Format(rebooted(t, c), "other"); l != nil || api.Code(e) != api.ErrInvalid {
		t.Errorf("Format past MaxSeq: %v, %v", l, e)
	}
}

// P17.2: Format of no store, and of labels that may not be: nothing is dropped.
func TestFormatOfNone(t *testing.T) {
	for _, name := range []string{"", "shelf", "-"} {
		if l, e := maplog.Format(nil, name); l != nil || api.Code(e) != api.ErrNil {
			t.Errorf("Format(nil, %q): %v, %v", name, l, e)
		}
	}
	l := begun(t, small(), ats(3, 10, 10)...)
	was, ops := faceOf(l), l.Store().Chip().Ops()
	for _, name := range []string{"", "-", "a-", "-a", "a b", "abcdefghijklm", "\xff", "a\xc3", "\u00d7", "a\x00", "\u65e5\u65e5\u65e5\u65e5\u65e5\u65e5\u65e5\u65e5\u65e5\u65e5\u65e5\u65e5\u65e5"} {
		x, e := maplog.Format(l.Store(), name)
		wantCode(t, "Format of "+strconv.Quote(name), e, api.ErrInvalid)
		if x != nil {
			t.Errorf("Format of %q: %v beside an error", name, x)
		}
	}
	wantFace(t, "labels that may not be", l, was)
	if l.Store().Chip().Ops() != ops {
		t.Error("labels that may not be: an operation")
	}
}

// P17.2: Format of stores in which pages are needed: these are dropped, and there is a checkpoint without entries, which lasts.
func TestFormat(t *testing.T) {
	for _, g := range []api.Geometry{small(), large(), {Blocks: 21, Pages: 5, Size: 200}} {
		c := chip(t, g)
		s := over(t, c)
		for _, name := range []string{"a", "shelf-1", "\u65e5\u672c", "\u65e5\u65e5\u65e5\u65e5\u65e5\u65e5\u65e5\u65e5\u65e5\u65e5\u65e5\u65e5"} {
			for range 9 {
				block(t, s, 5)
			}
			noted(t, s, 2000, 9, at(1, 1, true))
			l := formatted(t, s, name)
			if l.Label() != name || l.Store() != s || l.Pages() != 1 || l.Gen() <= 2000 || len(s.Needed()) != 1 {
				t.Errorf("Format of %q: %+v", name, faceOf(l))
			}
			wantEntries(t, name, l, nil)
			wantParts(t, name, l, nil)
			wantNotes(t, name, l)
			x := loaded(t, over(t, c))
			if x.Label() != name || x.Gen() != l.Gen() || x.Pages() != 1 {
				t.Errorf("Load of %q: %+v", name, faceOf(x))
			}
			wantEntries(t, name, x, nil)
			wantCommit(t, name, l, ats(20, 1, 1)...)
		}
	}
}

// P17.2: Format of a store that is full, which is room enough as all is dropped; of one whose blocks are all marked; of a dark one; and one at which the power goes.
func TestFormatWithoutRoom(t *testing.T) {
	s := over(t, chip(t, small()))
	filled(t, s, 0)
	if l := formatted(t, s, "shelf"); l.Pages() != 1 || len(s.Needed()) != 1 {
		t.Errorf("Format of a full store: %+v", faceOf(l))
	}
	c := chip(t, small())
	for b := range blocks {
		wantCode(t, "Mark", c.Mark(b), api.OK)
	}
	for _, x := range []struct {
		what string
		c    *nand.Chip
		off  bool
		want api.Errno
	}{
		{"all marked", c, false, api.ErrFull},
		{"dark", chip(t, small()), true, api.ErrDark},
		{"goes dark", chip(t, small(), api.Mishap{At: 1, Kind: api.Dark}), false, api.ErrDark},
	} {
		s := over(t, x.c)
		if x.off {
			x.c.Off()
		}
		l, e := maplog.Format(s, "shelf")
		wantCode(t, x.what, e, x.want)
		if l != nil || len(s.Needed()) != 0 {
			t.Errorf("%s: %v, %v", x.what, l, s.Needed())
		}
	}
}

// P17.2: Check with no entries, so many that one part, just as many, and one more goes, and as many as there may be: the parts are put in their order, its own pages are just these, all else of the log is dropped, what others have stays.
func TestCheck(t *testing.T) {
	for _, x := range []struct {
		g           api.Geometry
		many, parts int
	}{
		{small(), 0, 1}, {small(), 1, 1}, {small(), each - 1, 1}, {small(), each, 1}, {small(), each + 1, 2},
		{small(), 2 * each, 2}, {small(), 2*each + 1, 3}, {large(), 14, 1}, {large(), 15, 2}, {large(), mostEntries, 19},
	} {
		what := strconv.Itoa(x.many) + " entries"
		ns := ats(x.many, 1<<50, 0)
		l := begun(t, x.g, ns...)
		other := block(t, l.Store(), 77)
		for turn := range 3 {
			gen := l.Gen()
			wantCode(t, what, l.Check(), api.OK)
			if l.Gen() <= gen || l.Pages() != x.parts || l.Label() != "shelf" {
				t.Errorf("%s: Gen %d behind %d, Pages %d, not %d", what, l.Gen(), gen, l.Pages(), x.parts)
			}
			wantEntries(t, what, l, entriesOf(ns...))
			wantParts(t, what, l, entriesOf(ns...))
			wantNotes(t, what, l)
			if _, is := l.Store().Head(other); !is || len(l.Store().Needed()) != x.parts+1 {
				t.Errorf("%s: needed are %v", what, l.Store().Needed())
			}
			y := loaded(t, over(t, l.Store().Chip()))
			if y.Gen() != l.Gen() || y.Pages() != x.parts {
				t.Errorf("%s: behind a Load: Gen %d, Pages %d", what, y.Gen(), y.Pages())
			}
			wantEntries(t, what, y, entriesOf(ns...))
			if turn == 1 {
				wantCommit(t, what, l, append(goners(60, 5), gone(6))...)
			}
		}
	}
}

// P17.2: a Check that is refused for want of room at its first, its second, its third part: nothing is dropped but what it put, Gen and the entries stay; with room for all it goes well.
func TestCheckWithoutRoom(t *testing.T) {
	for room := range 5 {
		what := "room for " + strconv.Itoa(room)
		l := begun(t, small(), ats(2*each+1, 10, 100)...)
		filled(t, l.Store(), room)
		was, programs := faceOf(l), l.Store().Chip().Programs()
		e := l.Check()
		put := l.Store().Chip().Programs() - programs
		if room >= 3 {
			wantCode(t, what, e, api.OK)
			wantParts(t, what, l, was.Entries)
			continue
		}
		wantCode(t, what, e, api.ErrFull)
		if put != room {
			t.Errorf("%s: %d pages were put", what, put)
		}
		wantFace(t, what, l, was)
		wantCommitFull(t, what, l)
		x := loaded(t, rebooted(t, l.Store().Chip()))
		if x.Gen() != was.Gen || x.Label() != "shelf" || x.Pages() != was.Pages {
			t.Errorf("%s: behind a crash: %+v", what, faceOf(x))
		}
		wantEntries(t, what, x, was.Entries)
	}
}

// wantCommitFull fails, if a log without room takes a note.
func wantCommitFull(t *testing.T, what string, l *maplog.Log) {
	t.Helper()
	was := faceOf(l)
	wantCode(t, what+": Commit", l.Commit(at(1, 1, true)), api.ErrFull)
	wantFace(t, what+": Commit", l, was)
}

// P17.2: a Check of a log in the dark: nothing changes.
func TestCheckInTheDark(t *testing.T) {
	l := begun(t, small(), ats(9, 10, 100)...)
	was, ops := faceOf(l), l.Store().Chip().Ops()
	l.Store().Chip().Off()
	wantCode(t, "Check", l.Check(), api.ErrDark)
	wantFace(t, "Check", l, was)
	if l.Store().Chip().Ops() != ops {
		t.Error("an operation in the dark")
	}
}

// P17.2: Commit of nothing, of one note, of as many as one page takes, one more, and several pages' worth: they stand on the pages in their order, each page has as many as go, and they hold.
func TestCommit(t *testing.T) {
	const most, mostGone = 31, 42 // of 4 bytes, and of 3 bytes, each
	for i, x := range []struct {
		ns    []api.Note
		pages []int
	}{
		{nil, nil},
		{[]api.Note{}, nil},
		{ats(1, 1, 1), []int{1}},
		{ats(most, 1, 1), []int{most}},
		{ats(most+1, 1, 1), []int{most, 1}},
		{ats(2*most, 1, 1), []int{most, most}},
		{ats(2*most+5, 1, 1), []int{most, most, 5}},
		{goners(1, 1), []int{1}},
		{goners(mostGone, 1), []int{mostGone}},
		{goners(mostGone+1, 1), []int{mostGone, 1}},
		{slices.Concat(ats(most, 1, 1), goners(1, 1)), []int{most + 1}}, // just 128 bytes
		{slices.Concat(ats(most, 1, 1), goners(2, 1)), []int{most + 1, 1}},
		{slices.Concat(goners(3*mostGone, 1)[:2*mostGone], ats(40, 1, 1)), []int{mostGone, mostGone, most, 9}},
		{[]api.Note{at(math.MaxUint64, 255, true), {Entry: api.Entry{Addr: 1 << 63, Page: 128, Seq: greatestSeq}}}, []int{2}},
	} {
		what := "the " + strconv.Itoa(i) + "-th"
		l := begun(t, small())
		gen, ops := l.Gen(), l.Store().Chip().Ops()
		wantCommit(t, what, l, x.ns...)
		if got := l.Store().Chip().Ops() - ops; got != len(x.pages) || l.Pages() != 1+len(x.pages) || l.Gen() != gen {
			t.Errorf("%s: %d operations, Pages %d, Gen %d behind %d", what, got, l.Pages(), l.Gen(), gen)
		}
		var want [][]api.Note
		rest := x.ns
		for _, many := range x.pages {
			want, rest = append(want, rest[:many]), rest[many:]
		}
		wantNotes(t, what, l, want...)
		wantParts(t, what, l, nil)
		wantEntries(t, what, l, entriesOf(x.ns...))
		wantEntries(t, what+" behind a crash", loaded(t, rebooted(t, l.Store().Chip())), entriesOf(x.ns...))
	}
}

// P17.2: of a note that is not Gone its Entry stands at its Addr, another one no more; of one that is, none, also where none stood; of notes of one Addr the last one counts.
func TestCommitChanges(t *testing.T) {
	first := []api.Note{at(10, 40, true), at(20, 41, false), at(30, 42, true)}
	for i, ns := range [][]api.Note{
		{at(10, 50, false)},
		{at(10, 40, false)},
		{{Entry: api.Entry{Addr: 10, Page: 40, Dirty: true, Seq: 999}}},
		{gone(10)},
		{gone(20), gone(20)},
		{gone(11)},
		{gone(0), gone(math.MaxUint64)},
		{at(25, 50, true)},
		{at(0, 0, true), at(math.MaxUint64, 255, false)},
		{gone(10), at(10, 50, true)},
		{at(10, 50, true), gone(10)},
		{at(10, 50, true), at(10, 51, false), at(10, 52, true)},
		{at(10, 41, true), at(20, 40, true)},                    // they swap their pages
		{at(10, 41, true), at(20, 42, false), at(30, 40, true)}, // all three do
		{at(11, 40, true), gone(10)},
		{gone(10), at(11, 40, true)},
		{at(10, 41, true), gone(20)},
		{gone(10), gone(20), gone(30)},
	} {
		what := "the " + strconv.Itoa(i) + "-th"
		l := begun(t, small(), first...)
		wantCommit(t, what, l, ns...)
		want := behind(entriesOf(first...), ns...)
		wantEntries(t, what, l, want)
		if l.Pages() != 3 {
			t.Errorf("%s: Pages %d", what, l.Pages())
		}
		wantEntries(t, what+" behind a Load", loaded(t, over(t, l.Store().Chip())), want)
		wantCode(t, what+": Check", l.Check(), api.OK)
		wantEntries(t, what+" behind a Check", loaded(t, over(t, l.Store().Chip())), want)
	}
}

// P17.2: Commit of a note that may not be, wherever it stands, and of notes behind which two entries have one page, or too many stand: nothing changes, in the dark either.
func TestCommitOfNone(t *testing.T) {
	none := []api.Note{
		{}, {Gone: true}, {Entry: api.Entry{Addr: 1, Page: 1}},
		{Entry: api.Entry{Addr: 1, Page: 1, Seq: -1}}, {Entry: api.Entry{Addr: 1, Page: 1, Seq: greatestSeq + 1}},
		{Entry: api.Entry{Addr: 1, Page: -1, Seq: 1}}, {Entry: api.Entry{Addr: 1, Page: 256, Seq: 1}},
		{Entry: api.Entry{Addr: 1, Page: math.MaxInt, Seq: 1}}, {Entry: api.Entry{Addr: 1, Page: math.MinInt, Seq: 1}},
		{Gone: true, Entry: api.Entry{Addr: 10, Page: 1, Seq: 1}}, {Gone: true, Entry: api.Entry{Addr: 10, Dirty: true, Seq: 1}},
		{Gone: true, Entry: api.Entry{Addr: 10, Seq: math.MaxInt}}, {Gone: true, Entry: api.Entry{Addr: 10, Seq: math.MinInt}},
	}
	var all [][]api.Note
	for _, n := range none {
		all = append(all, []api.Note{n}, []api.Note{n, gone(10)}, []api.Note{gone(10), n}, []api.Note{at(5, 5, true), n, at(6, 6, true)}, append(goners(200, 1), n))
	}
	all = append(all,
		[]api.Note{at(1, 1, true), at(2, 1, true)},
		[]api.Note{at(1, 1, true), at(3, 3, true), at(2, 1, false)},
		[]api.Note{at(11, 40, true)},
		[]api.Note{at(20, 40, true)},
		[]api.Note{gone(20), at(5, 42, true)},
		[]api.Note{gone(10), at(5, 40, true), at(6, 40, true)},
		[]api.Note{at(10, 40, false), at(11, 40, true)},
		append(goners(200, 50), at(11, 41, true)),
	)
	l := begun(t, small(), at(10, 40, true), at(20, 41, false), at(30, 42, true))
	was, ops := faceOf(l), l.Store().Chip().Ops()
	for _, isOff := range []bool{false, true} {
		if isOff {
			l.Store().Chip().Off()
		}
		for _, ns := range all {
			wantCode(t, "Commit", l.Commit(ns...), api.ErrInvalid)
		}
		wantFace(t, "Commit", l, was)
	}
	if l.Store().Chip().Ops() != ops {
		t.Errorf("Ops: %d, not %d", l.Store().Chip().Ops(), ops)
	}
}

// P17.2: as many entries as there may be; one more is refused, one instead of another is not.
func TestMostEntries(t *testing.T) {
	ns := ats(mostEntries, 1000, 0)
	l := begun(t, large(), ns...)
	es := entriesOf(ns...)
	wantEntries(t, "all", l, es)
	was := faceOf(l)
	for _, more := range [][]api.Note{{at(1, 0, true)}, {at(5000, 255, true)}, {gone(1), at(1, 7, true)}, {at(1, 7, true), gone(2)}} {
		wantCode(t, "one more", l.Commit(more...), api.ErrInvalid)
	}
	wantCode(t, "too many at once", begun(t, large()).Commit(append(slices.Clone(ns), at(1, 0, true))...), api.ErrInvalid)
	wantFace(t, "one more", l, was)
	swap := []api.Note{at(1, 7, true), gone(1007)}
	wantCommit(t, "one instead", l, swap...)
	wantEntries(t, "one instead", l, behind(es, swap...))
	wantEntries(t, "behind a Load", loaded(t, over(t, l.Store().Chip())), behind(es, swap...))
	wantCode(t, "Check", l.Check(), api.OK)
	wantEntries(t, "behind a Check", loaded(t, over(t, l.Store().Chip())), behind(es, swap...))
}

// several are notes of three pages' worth, so many of which go on each.
func several() ([]api.Note, []int) {
	return slices.Concat(ats(31, 1, 1), goners(20, 21), ats(45, 40, 60)), []int{32, 36, 28}
}

// P17.2: a Commit that is refused for want of room at its first, its second, its third page: the notes of those pages that were put hold, also behind a crash.
func TestCommitWithoutRoom(t *testing.T) {
	ns, groups := several()
	for room := range 4 {
		what := "room for " + strconv.Itoa(room)
		l := begun(t, small())
		filled(t, l.Store(), room)
		e := l.Commit(ns...)
		if room == 3 {
			wantCode(t, what, e, api.OK)
		} else {
			wantCode(t, what, e, api.ErrFull)
		}
		held := 0
		for _, many := range groups[:room] {
			held += many
		}
		wantEntries(t, what, l, entriesOf(ns[:held]...))
		if l.Pages() != 1+room {
			t.Errorf("%s: Pages %d", what, l.Pages())
		}
		x := loaded(t, rebooted(t, l.Store().Chip()))
		wantEntries(t, what+" behind a crash", x, entriesOf(ns[:held]...))
		if x.Pages() != 1+room {
			t.Errorf("%s: Pages %d behind a crash", what, x.Pages())
		}
	}
}

// P17.2: a Commit in the dark, and one at whose first, second, third page the power goes: the notes of those pages that were put hold; behind a crash those of a page that is whole all the same, too.
func TestCommitInTheDark(t *testing.T) {
	ns, groups := several()
	l := begun(t, small())
	before, was := l.Store().Chip().Ops(), faceOf(l)
	l.Store().Chip().Off()
	wantCode(t, "Commit", l.Commit(ns...), api.ErrDark)
	wantCode(t, "Commit of nothing", l.Commit(), api.OK)
	wantFace(t, "Commit", l, was)
	for put := range 3 {
		for _, there := range []int{0, 1, size, size + 27, size + 28, 9999} {
			what := "page " + strconv.Itoa(put) + ", " + strconv.Itoa(there) + " bytes"
			c := chip(t, small(), api.Mishap{At: before + 1 + put, Kind: api.Dark, Bytes: there})
			l := formatted(t, over(t, c), "shelf")
			wantCode(t, what, l.Commit(ns...), api.ErrDark)
			held := 0
			for _, many := range groups[:put] {
				held += many
			}
			wantEntries(t, what, l, entriesOf(ns[:held]...))
			if there >= size+28 {
				held += groups[put]
			}
			wantEntries(t, what+" behind a crash", loaded(t, rebooted(t, c)), entriesOf(ns[:held]...))
		}
	}
}

// P17.2: very many notes at once are refused soon, and those that went hold.
func TestVeryManyNotes(t *testing.T) {
	l := begun(t, large(), at(5, 5, true))
	e := l.Commit(append([]api.Note{gone(5)}, goners(1000000, 1<<40)...)...)
	wantCode(t, "Commit", e, api.ErrFull)
	wantEntries(t, "Commit", l, nil)
	if l.Pages() != 256 || l.Store().Room() != 0 {
		t.Errorf("Pages %d, Room %d", l.Pages(), l.Store().Room())
	}
}

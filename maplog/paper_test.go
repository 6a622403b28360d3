package maplog_test

import (
	"bytes"
	"slices"
	"strconv"
	"testing"

	"scullery/api"
	"scullery/maplog"
	"scullery/nand"
	"scullery/store"
)

// width is how many bytes a page of small's size has with its head.
const width = size + 28

// drawn answers numbers from 0 to below another one, the same ones each time.
func drawn(from int) func(below int) int {
	state := uint64(from)*2862933555777941757 + 3037000493
	return func(below int) int {
		state = state*6364136223846793005 + 1442695040888963407
		return int((state >> 33) % uint64(below))
	}
}

// mishaps are so many ones whose numbers rise by at most some number.
func mishaps(draw func(int) int, many, most int) []api.Mishap {
	var ms []api.Mishap
	at := 0
	for range many {
		at += 1 + draw(most)
		there := []int{0, 1, draw(300), width, 9999}[draw(5)]
		ms = append(ms, api.Mishap{At: at, Kind: 1 + draw(2), Bytes: there, Fill: []byte{0, 255, 9}[draw(3)]})
	}
	return ms
}

// digits is how many bytes a number has, of which each holds seven bits.
func digits(n uint64) int {
	many := 1
	for ; n >= 128; n /= 128 {
		many++
	}
	return many
}

// groups are notes by the pages that they go to, as the document words it: each page as many as go.
func groups(many int, ns []api.Note) [][]api.Note {
	var out [][]api.Note
	have := many
	for _, n := range ns {
		own := digits(n.Entry.Addr) + digits(uint64(n.Entry.Seq)) + 1
		if !n.Gone {
			own += digits(uint64(n.Entry.Page))
		}
		last := len(out) - 1
		if have += own; last < 0 || have+digits(uint64(len(out[last])+1)) > many {
			out, have = append(out, nil), own
			last++
		}
		out[last] = append(out[last], n)
	}
	return out
}

// lasting is a log on a chip that crashes.
type lasting struct {
	c *nand.Chip
	l *maplog.Log

	may      [][]api.Entry // the entries that there may be behind a crash
	isCheck  bool          // a Check is under way
	seq, gen int           // the greatest ones that stood in a head, or were told, since the store was made
	datas    map[int][]byte
}

// begins answers such a log, which is new: none, if there is no room for it.
func begins(t *testing.T, c *nand.Chip) *lasting {
	t.Helper()
	x := &lasting{c: c, datas: map[int][]byte{}}
	for {
		if !c.On() {
			wantCode(t, "Boot", c.Boot(), api.OK)
		}
		s, e := store.New(c)
		if e == nil {
			x.seq, x.gen = 0, 0
			x.look(s)
			x.l, e = maplog.Format(s, "shelf")
		}
		switch api.Code(e) {
		case api.OK:
			if x.l.Gen() <= x.gen || x.l.Pages() != 1 {
				t.Errorf("Format: Gen %d behind %d, Pages %d", x.l.Gen(), x.gen, x.l.Pages())
			}
			x.gen, x.may = x.l.Gen(), [][]api.Entry{nil}
			return x
		case api.ErrFull:
			return nil
		}
		wantCode(t, "Format", e, api.ErrDark)
	}
}

// look takes the numbers of what stands in a store.
func (x *lasting) look(s *store.Store) {
	for _, h := range headsOf(s) {
		x.seq, x.gen = max(x.seq, h.Seq), max(x.gen, h.Gen)
	}
}

// room answers how many Puts go well; fewer do, if blocks failed that are not marked.
func (x *lasting) room() int { return x.l.Store().Room() }

// number answers the log's next number, and fails, if it is not above all.
func (x *lasting) number(t *testing.T) int {
	t.Helper()
	x.look(x.l.Store())
	n := x.l.Number()
	if n <= x.seq {
		t.Errorf("Number: %d, behind %d", n, x.seq)
	}
	x.seq = n
	return n
}

// block puts a block, and answers the note of it: false, if there is no room, or was a crash.
func (x *lasting) block(t *testing.T, addr uint64, dirty bool) (api.Note, bool) {
	t.Helper()
	seq := x.number(t)
	h := api.Head{Kind: api.KindClean, Addr: addr, Seq: seq}
	if dirty {
		h.Kind = api.KindData
	}
	data := some(x.c.Geometry().Size, seq)
	page, e := x.l.Store().Put(h, data)
	switch api.Code(e) {
	case api.OK:
		x.datas[seq] = data
		return api.Note{Entry: api.Entry{Addr: addr, Page: page, Dirty: dirty, Seq: seq}}, true
	case api.ErrDark:
		x.find(t)
	case api.ErrFull:
	default:
		t.Errorf("Put: %v", e)
	}
	return api.Note{}, false
}

// commit commits notes, and fails, if not those of some first pages hold.
func (x *lasting) commit(t *testing.T, ns ...api.Note) {
	t.Helper()
	x.may = x.may[:1]
	for _, group := range groups(x.c.Geometry().Size, ns) {
		x.may = append(x.may, behind(x.may[len(x.may)-1], group...))
	}
	before, gen := x.l.Pages(), x.l.Gen()
	e := x.l.Commit(ns...)
	put := x.l.Pages() - before
	if put < 0 || put >= len(x.may) || x.l.Gen() != gen {
		t.Fatalf("Commit: %v, %d pages of %d, Gen %d, not %d", e, put, len(x.may)-1, x.l.Gen(), gen)
	}
	isWhole := put == len(x.may)-1
	x.may = x.may[put:min(put+2, len(x.may))]
	wantEntries(t, "Commit", x.l, x.may[0])
	switch code := api.Code(e); {
	case code == api.OK && isWhole:
	case code == api.ErrFull && !isWhole && x.room() == 0:
	case code == api.ErrDark && !isWhole:
		x.find(t)
	default:
		t.Errorf("Commit: %v, whole %v, Room %d", e, isWhole, x.room())
	}
	x.may = x.may[:1]
	x.tidy(t)
}

// tidy drops the blocks that no entry names, as one does behind a Commit.
func (x *lasting) tidy(t *testing.T) {
	t.Helper()
	es := x.l.Entries()
	for page, h := range headsOf(x.l.Store()) {
		if h.Addr > 0 && !slices.ContainsFunc(es, func(e api.Entry) bool { return e.Page == page }) {
			dropped(t, x.l.Store(), []int{page})
		}
	}
}

// check makes a checkpoint, and fails, if anything but the log's own pages changes.
func (x *lasting) check(t *testing.T) {
	t.Helper()
	x.look(x.l.Store())
	was, room := faceOf(x.l), x.room()
	x.isCheck = true
	e := x.l.Check()
	switch api.Code(e) {
	case api.OK:
		wantEntries(t, "Check", x.l, was.Entries)
		if x.l.Gen() <= x.gen || x.l.Label() != was.Label {
			t.Errorf("Check: Gen %d, behind %d", x.l.Gen(), x.gen)
		}
		for page, h := range was.Heads {
			if _, is := x.l.Store().Head(page); is != (h.Gen != was.Gen) {
				t.Errorf("Check: page %d, %v, is needed: %v", page, h, is)
			}
		}
		if x.l.Pages() != len(owns(x.l.Store(), api.KindSeg, x.l.Gen())) || x.l.Pages() > room {
			t.Errorf("Check: Pages %d, Room was %d", x.l.Pages(), room)
		}
	case api.ErrDark:
		wantFace(t, "Check", x.l, was)
		x.find(t)
	default:
		wantCode(t, "Check", e, api.ErrFull)
		wantFace(t, "Check", x.l, was)
	}
	x.isCheck = false
}

// crash takes the power, and finds the log.
func (x *lasting) crash(t *testing.T) {
	t.Helper()
	x.c.Off()
	x.find(t)
}

// find finds the log behind a crash, during which there may be others, and fails, if it is not as it may be.
func (x *lasting) find(t *testing.T) {
	t.Helper()
	name, gen := x.l.Label(), x.l.Gen()
	for isThere := false; !isThere; isThere = x.isThere(t) {
		if !x.c.On() {
			wantCode(t, "Boot", x.c.Boot(), api.OK)
		}
		s, e := store.New(x.c)
		if e != nil {
			wantCode(t, "New", e, api.ErrDark)
			continue
		}
		x.seq, x.gen = 0, 0
		x.look(s)
		was := headsOf(s)
		l, e := maplog.Load(s)
		if api.Code(e) == api.ErrDark {
			continue
		}
		if e != nil {
			t.Fatalf("Load: %v", e)
		}
		x.l = l
		wantSwept(t, "Load", l, was)
	}
	if isNext := x.isCheck && x.l.Gen() > gen; x.l.Gen() != gen && !isNext || x.l.Label() != name {
		t.Errorf("behind a crash: %q, Gen %d, not %q, %d", x.l.Label(), x.l.Gen(), name, gen)
	}
	if !slices.ContainsFunc(x.may, func(es []api.Entry) bool { return slices.Equal(es, x.l.Entries()) }) {
		t.Errorf("behind a crash: %v, not one of %v", x.l.Entries(), x.may)
	}
	x.may = [][]api.Entry{x.l.Entries()}
	if x.c.Misuse() != 0 {
		t.Errorf("Misuse: %d", x.c.Misuse())
	}
}

// isThere tells whether there is power still, and fails, if a block that an entry names is not there as it was put.
func (x *lasting) isThere(t *testing.T) bool {
	t.Helper()
	if !x.c.On() {
		return false
	}
	for _, entry := range x.l.Entries() {
		data, h, e := x.l.Store().Get(entry.Page)
		if api.Code(e) == api.ErrDark {
			return false
		}
		if e != nil || h.Addr != entry.Addr || h.Seq != entry.Seq || !bytes.Equal(data, x.datas[entry.Seq]) {
			t.Errorf("behind a crash: %v: %x, %v, %v", entry, data, h, e)
		}
	}
	return true
}

// step does one step of a script: some blocks in one Commit, each of which has some addresses that are there no more, too; or a Check.
func (x *lasting) step(t *testing.T, draw func(int) int) {
	t.Helper()
	if x.l.Pages() > 9 || draw(9) == 0 {
		x.check(t)
	}
	var ns []api.Note
	was := x.l
	for range draw(5) {
		n, ok := x.block(t, 1+uint64(draw(20)), draw(2) == 0)
		if x.l != was {
			return // a crash was between
		}
		if ok {
			ns = append(ns, n)
		}
		// Notes of nothing that is there, so that there are several pages of them.
		ns = append(ns, goners(draw(40)*draw(2), 1<<uint(20+draw(40)))...)
		for range draw(3) {
			ns = append(ns, gone(1+uint64(draw(20))))
		}
	}
	if len(ns) == 0 || x.room() < 4 {
		ns = append(ns, goners(6, 1+uint64(draw(15)))...)
	}
	x.commit(t, slices.CompactFunc(ns, func(a, b api.Note) bool { return a == b })...)
}

// P17.1 to P17.5, T2: long drawn scripts under drawn mishaps, blocks that fail and crashes at any operation: what is told is as the document words it behind each step.
func TestDrawnScripts(t *testing.T) {
	gs := []api.Geometry{small(), large(), {Blocks: 21, Pages: 5, Size: 200}, {Blocks: 32, Pages: 4, Size: 128}}
	for from := range 120 {
		draw := drawn(from)
		many, most := draw(25), 20+draw(60)
		c := chip(t, gs[from%len(gs)], mishaps(draw, many, most)...)
		x := begins(t, c)
		for step := 0; x != nil && step < 150; step++ {
			x.step(t, draw)
			if draw(30) == 0 {
				x.crash(t)
			}
			if draw(60) == 0 {
				x = begins(t, c)
			}
			if t.Failed() {
				t.Fatalf("script %d: step %d", from, step)
			}
		}
	}
}

// steady is a script of some hundred operations, the same each time, with pages of notes, Checks of several parts, and erases of blocks.
func steady(t *testing.T, c *nand.Chip) *lasting {
	t.Helper()
	x := begins(t, c)
	for i := 1; i <= 26 && x != nil; i++ {
		var ns []api.Note
		was := x.l
		for k := range 1 + i%3 {
			if n, ok := x.block(t, uint64(1+(5*i+3*k)%13), i%2 == 0); ok && x.l == was {
				ns = append(ns, n)
			}
		}
		if x.l != was {
			continue
		}
		if i%5 == 0 {
			ns = append(ns, goners(50, uint64(5+i%7))...)
		}
		x.commit(t, ns...)
		if i%4 == 3 {
			x.check(t)
		}
	}
	return x
}

// P17.5: the power goes at each operation of a Commit, of a Check, and of the Load behind it, with each kind of mishap and some bytes done, and behind blocks that failed: the entries are those behind some first pages of the last Commit, and all ahead of it; a Check changes none.
func TestCrashAtEach(t *testing.T) {
	calm := chip(t, small())
	x := steady(t, calm)
	last := calm.Ops()
	if last < 100 || slices.Max([]int{calm.Wear(0), calm.Wear(1), calm.Wear(2)}) == 0 {
		t.Fatalf("%d operations, Wear %d: too calm", last, calm.Wear(0))
	}
	wantEntries(t, "calm", x.l, x.may[0])
	for at := 1; at <= last; at++ {
		for _, ms := range [][]api.Mishap{
			{{At: at, Kind: api.Dark, Fill: 255}},
			{{At: at, Kind: api.Dark, Bytes: 1 + at%size, Fill: 0}},
			{{At: at, Kind: api.Dark, Bytes: width - 1, Fill: 1}, {At: at + 1 + at%20, Kind: api.Dark}, {At: at + 30, Kind: api.Dark, Bytes: width}},
			{{At: at, Kind: api.Dark, Bytes: width, Fill: 9}, {At: at + 40 + at%9, Kind: api.Dark}},
			{{At: at, Kind: api.Fails, Bytes: 77}, {At: at + 1, Kind: api.Dark}},
			{{At: at, Kind: api.Fails, Bytes: width}, {At: at + 2, Kind: api.Dark, Bytes: at, Fill: 7}, {At: at + 20, Kind: api.Dark}},
			{{At: at, Kind: api.Fails}, {At: at + 2, Kind: api.Fails}, {At: at + 9, Kind: api.Fails}, {At: at + 11, Kind: api.Dark, Bytes: width}},
		} {
			x := steady(t, chip(t, small(), ms...))
			if x != nil {
				x.crash(t)
			}
			if t.Failed() {
				t.Fatalf("mishaps %v", ms)
			}
		}
	}
}

// P17.5: hundreds of crashes, one behind the other, each with a recovery, by Off at any time and by mishaps within recoveries; and what is asked ends within moments.
func TestCrashManyTimes(t *testing.T) {
	for from, g := range []api.Geometry{small(), large()} {
		draw := drawn(5000 + from)
		x := begins(t, chip(t, g, mishaps(draw, 24, 400)...))
		for crash := range 400 {
			x.step(t, draw)
			if crash%3 == 0 {
				x.check(t)
			}
			x.crash(t)
			if t.Failed() {
				t.Fatalf("chip %d: crash %s", from, strconv.Itoa(crash))
			}
		}
	}
}

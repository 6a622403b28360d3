package ssc_test

import (
	"bytes"
	"math"
	"reflect"
	"slices"
	"strconv"
	"strings"
	"testing"

	"scullery/api"
	"scullery/head"
	"scullery/maplog"
	"scullery/nand"
	"scullery/ssc"
	"scullery/store"
)

// The document's limits, in its own numbers.
const mostMany, mostRunes, greatestSeq, greatestGen = 64, 12, 1<<40 - 1, 1<<24 - 1

// The geometry of most chips here: the least one, of which three blocks may hold entries.
const blocks, pages, size, room = 16, 4, 128, 3

// small is that geometry.
func small() api.Geometry { return api.Geometry{Blocks: blocks, Pages: pages, Size: size} }

// large is the greatest one.
func large() api.Geometry { return api.Geometry{Blocks: 32, Pages: 8, Size: 256} }

// some are so many bytes that a number tells.
func some(many, seed int) []byte {
	out := make([]byte, many)
	for i := range out {
		out[i] = byte((i*i + i*(2*seed+1) + 11*seed + 5) % 251)
	}
	return out
}

// dirty is a command to write a dirty block of the small size.
func dirty(addr uint64, seed int) api.WriteDirty {
	return api.WriteDirty{Addr: addr, Data: some(size, seed)}
}

// fill is a command to write a clean one.
func fill(addr uint64, seed int) api.WriteClean {
	return api.WriteClean{Addr: addr, Data: some(size, seed)}
}

// got is the answer to a read of the small size.
func got(seed int, isDirty bool) api.Got {
	return api.Got{Data: some(size, seed), Dirty: isDirty}
}

// listed is the answer to a list.
func listed(addrs ...uint64) api.Listed { return api.Listed{Addrs: addrs} }

// refused is the answer of what is not done.
func refused(code api.Errno) api.Refused { return api.Refused{Code: code} }

// chip answers a chip, and fails, if there is none.
func chip(t *testing.T, g api.Geometry, marks []int, ms ...api.Mishap) *nand.Chip {
	t.Helper()
	c := nand.New(g, marks, ms...)
	if c == nil {
		t.Fatalf("nand.New(%v, %v, %v): none", g, marks, ms)
	}
	return c
}

// firsts are so many blocks, the first ones.
func firsts(many int) []int {
	var out []int
	for b := range many {
		out = append(out, b)
	}
	return out
}

// formatted answers a new device, and fails, if there is none, or it holds something.
func formatted(t *testing.T, c *nand.Chip) *ssc.Device {
	t.Helper()
	d, e := ssc.Format(c, "shelf")
	if e != nil || d == nil {
		t.Fatalf("Format: %v, %v", d, e)
	}
	wantCounts(t, "Format", d, 0, 0)
	return d
}

// begun answers a new device on a new chip of the small geometry.
func begun(t *testing.T) *ssc.Device {
	t.Helper()
	return formatted(t, chip(t, small(), nil))
}

// recovered answers the device of a chip, and fails, if there is none.
func recovered(t *testing.T, c *nand.Chip) *ssc.Device {
	t.Helper()
	d, e := ssc.Recover(c)
	if e != nil || d == nil {
		t.Fatalf("Recover: %v, %v", d, e)
	}
	return d
}

// again answers the device behind a crash.
func again(t *testing.T, c *nand.Chip) *ssc.Device {
	t.Helper()
	c.Off()
	wantCode(t, "Boot", c.Boot(), api.OK)
	return recovered(t, c)
}

// wantCode fails, unless an error has a Code, is an *api.Wrong itself, and says where.
func wantCode(t *testing.T, what string, e error, want api.Errno) {
	t.Helper()
	if want == api.OK {
		if e != nil {
			t.Errorf("%s: %v", what, e)
		}
		return
	}
	w, ok := e.(*api.Wrong)
	if !ok || w.Code != want || w.Where == "" {
		t.Errorf("%s: %v, not %d", what, e, want)
	}
}

// wantNoDevice fails, unless there is none, for that reason.
func wantNoDevice(t *testing.T, what string, d *ssc.Device, e error, want api.Errno) {
	t.Helper()
	wantCode(t, what, e, want)
	if d != nil {
		t.Errorf("%s: %v beside %v", what, d, e)
	}
}

// wantCounts fails, unless a device counts so.
func wantCounts(t *testing.T, what string, d *ssc.Device, all, dirty int) {
	t.Helper()
	if a, b := d.Counts(); a != all || b != dirty {
		t.Errorf("%s: Counts: %d, %d, not %d, %d", what, a, b, all, dirty)
	}
}

// isAlike tells whether two answers are of one type, and tell the same: a list of none is nil or empty.
func isAlike(a, b api.Answer) bool {
	if reflect.TypeOf(a) != reflect.TypeOf(b) {
		return false
	}
	x, y := api.Plain(a), api.Plain(b)
	return x.Kind == y.Kind && x.Code == y.Code && bytes.Equal(x.Data, y.Data) && x.Dirty == y.Dirty && slices.Equal(x.Addrs, y.Addrs)
}

// want fails, unless a command is answered so.
func want(t *testing.T, d *ssc.Device, c api.Command, answer api.Answer) {
	t.Helper()
	if a := d.Do(c); !isAlike(a, answer) {
		t.Errorf("%T: %T %v, not %T %v", c, a, a, answer, answer)
	}
}

// wantDone fails, unless commands are done.
func wantDone(t *testing.T, d *ssc.Device, cs ...api.Command) {
	t.Helper()
	for _, c := range cs {
		want(t, d, c, api.Done{})
	}
}

// face is all that is told of a device, and of its chip, without an operation.
type face struct {
	Label      string
	Size       int
	All, Dirty int
	Listed     []uint64
	On         bool
	Ops        int
	Wear, Next []int
	Marked     []bool
}

// faceOf is a device's.
func faceOf(d *ssc.Device) face {
	c := d.Chip()
	all, dirty := d.Counts()
	f := face{Label: d.Label(), Size: d.Size(), All: all, Dirty: dirty, On: c.On(), Ops: c.Ops()}
	for from, is := uint64(0), true; is; {
		addrs := api.Plain(d.Do(api.Exists{From: from, Many: mostMany})).Addrs
		f.Listed = append(f.Listed, addrs...)
		if is = len(addrs) == mostMany; is {
			from = addrs[mostMany-1] + 1
		}
	}
	for b := range c.Geometry().Blocks {
		f.Wear, f.Next, f.Marked = append(f.Wear, c.Wear(b)), append(f.Next, c.Next(b)), append(f.Marked, c.Marked(b))
	}
	return f
}

// wantFace fails, unless all that is told of a device is as it was.
func wantFace(t *testing.T, what string, d *ssc.Device, was face) {
	t.Helper()
	if f := faceOf(d); !reflect.DeepEqual(f, was) {
		t.Errorf("%s: %+v, not %+v", what, f, was)
	}
}

// P19.1, P19.2: the document's example, and example 1 of the whole: a block is written as dirty, the power goes, it is recovered: it is read, and listed.
func TestExample(t *testing.T) {
	d := begun(t)
	wantDone(t, d, dirty(5, 1))
	d = recovered(t, d.Chip())
	want(t, d, api.Read{Addr: 5}, got(1, true))
	d = again(t, d.Chip())
	want(t, d, api.Read{Addr: 5}, got(1, true))
	want(t, d, api.Exists{Many: 9}, listed(5))
	wantCounts(t, "behind a crash", d, 1, 1)
}

// P19.2: example 2 of the whole: a block is written as clean: it is read, or it is gone, but never an older one, behind a crash neither.
func TestClean(t *testing.T) {
	d := begun(t)
	wantDone(t, d, dirty(5, 1), fill(5, 2))
	want(t, d, api.Read{Addr: 5}, got(2, false))
	want(t, d, api.Exists{Many: 9}, listed())
	d = again(t, d.Chip())
	want(t, d, api.Read{Addr: 5}, got(2, false))
	wantDone(t, d, dirty(5, 3))
	want(t, d, api.Read{Addr: 5}, got(3, true))
	wantDone(t, d, api.Clean{Addr: 5})
	want(t, d, api.Read{Addr: 5}, got(3, false))
	wantDone(t, d, api.Clean{Addr: 5})
	d = again(t, d.Chip())
	want(t, d, api.Read{Addr: 5}, got(3, false))
	wantDone(t, d, api.Evict{Addr: 5})
	want(t, d, api.Read{Addr: 5}, refused(api.ErrNone))
	want(t, d, api.Clean{Addr: 5}, refused(api.ErrNone))
	wantDone(t, d, api.Evict{Addr: 5})
	d = again(t, d.Chip())
	want(t, d, api.Read{Addr: 5}, refused(api.ErrNone))
	wantCounts(t, "behind all", d, 0, 0)
}

// P19.1, R6: what Format says of chips and labels that may not be, and which error comes first.
func TestFormatErrors(t *testing.T) {
	dark := func(g api.Geometry, marks int) *nand.Chip {
		c := chip(t, g, firsts(marks))
		c.Off()
		return c
	}
	long := strings.Repeat("本", mostRunes)
	for _, x := range []struct {
		what string
		c    *nand.Chip
		name string
		want api.Errno
	}{
		{"no chip", nil, "shelf", api.ErrNil},
		{"no chip, no label", nil, "", api.ErrNil},
		{"the least geometry", chip(t, small(), nil), "s", api.OK},
		{"the greatest geometry", chip(t, large(), nil), long, api.OK},
		{"too few blocks", chip(t, api.Geometry{Blocks: blocks - 1, Pages: pages, Size: size}, nil), "shelf", api.ErrInvalid},
		{"too few pages", chip(t, api.Geometry{Blocks: blocks, Pages: pages - 1, Size: size}, nil), "shelf", api.ErrInvalid},
		{"the least of each alone", chip(t, api.Geometry{Blocks: 32, Pages: 4, Size: 256}, nil), "shelf", api.OK},
		{"no label", chip(t, small(), nil), "", api.ErrInvalid},
		{"too long a label", chip(t, small(), nil), long + "a", api.ErrInvalid},
		{"no rune of a label", chip(t, small(), nil), "a b", api.ErrInvalid},
		{"dark, no label", dark(small(), 0), "", api.ErrInvalid},
		{"dark, too few blocks", dark(api.Geometry{Blocks: blocks - 1, Pages: pages, Size: size}, 0), "shelf", api.ErrInvalid},
		{"dark", dark(small(), 0), "shelf", api.ErrDark},
		{"dark, worn", dark(small(), room+1), "shelf", api.ErrDark},
		{"worn, no label", chip(t, small(), firsts(room+1)), "-", api.ErrInvalid},
		{"as many marked as may be", chip(t, small(), firsts(room)), "shelf", api.OK},
		{"one more marked", chip(t, small(), firsts(room+1)), "shelf", api.ErrWorn},
		{"all marked", chip(t, small(), firsts(blocks)), "shelf", api.ErrWorn},
		{"as many of the greatest", chip(t, large(), firsts(21)), "shelf", api.OK},
		{"one more of the greatest", chip(t, large(), firsts(22)), "shelf", api.ErrWorn},
	} {
		was := x.c.Ops()
		d, e := ssc.Format(x.c, x.name)
		if x.want != api.OK {
			wantNoDevice(t, x.what, d, e, x.want)
			if x.c.Ops() != was {
				t.Errorf("%s: %d operations", x.what, x.c.Ops()-was)
			}
			continue
		}
		wantCode(t, x.what, e, api.OK)
		if d.Label() != x.name || d.Size() != x.c.Geometry().Size || d.Chip() != x.c {
			t.Errorf("%s: %q, %d, %v", x.what, d.Label(), d.Size(), d.Chip() == x.c)
		}
		wantCounts(t, x.what, d, 0, 0)
		wantCounts(t, x.what, again(t, x.c), 0, 0)
	}
}

// P19.1, R6: what Recover says where there is no device, and that marked blocks are no matter.
func TestRecoverErrors(t *testing.T) {
	_, e := ssc.Recover(nil)
	wantCode(t, "no chip", e, api.ErrNil)
	d, e := ssc.Recover(chip(t, api.Geometry{Blocks: blocks - 1, Pages: pages, Size: size}, nil))
	wantNoDevice(t, "too few blocks", d, e, api.ErrInvalid)
	c := chip(t, api.Geometry{Blocks: blocks, Pages: pages - 1, Size: size}, nil)
	c.Off()
	d, e = ssc.Recover(c)
	wantNoDevice(t, "too few pages, dark", d, e, api.ErrInvalid)
	c = chip(t, small(), nil)
	d, e = ssc.Recover(c)
	wantNoDevice(t, "a blank chip", d, e, api.ErrNone)
	c.Off()
	d, e = ssc.Recover(c)
	wantNoDevice(t, "a blank chip, dark", d, e, api.ErrDark)
	d, e = ssc.Recover(chip(t, small(), firsts(blocks)))
	wantNoDevice(t, "a blank chip of marked blocks", d, e, api.ErrNone)

	mine := begun(t)
	wantDone(t, mine, dirty(1, 1), fill(2, 2))
	c = mine.Chip()
	for b := range blocks {
		wantCode(t, "Mark", c.Mark(b), api.OK)
	}
	mine = again(t, c)
	want(t, mine, api.Read{Addr: 1}, got(1, true))
	want(t, mine, api.Exists{Many: 1}, listed(1))
	wantCounts(t, "all marked", mine, 2, 1)
	c.Off()
	d, e = ssc.Recover(c)
	wantNoDevice(t, "dark", d, e, api.ErrDark)
}

// P19.1: Recover that the power goes in is ErrDark, at each of its operations, and the next one finds all.
func TestRecoverInTheDark(t *testing.T) {
	calm := begun(t)
	script := []api.Command{dirty(1, 1), fill(2, 2), dirty(3, 3), api.Evict{Addr: 3}, dirty(4, 4), api.Clean{Addr: 4}}
	wantDone(t, calm, script...)
	before := calm.Chip().Ops()
	recovered(t, calm.Chip())
	cost := calm.Chip().Ops() - before
	for at := 1; at <= cost; at++ {
		c := chip(t, small(), nil, api.Mishap{At: before + at, Kind: api.Dark}, api.Mishap{At: before + at + 1, Kind: api.Dark})
		wantDone(t, formatted(t, c), script...)
		for range 2 {
			d, e := ssc.Recover(c)
			wantNoDevice(t, "Recover", d, e, api.ErrDark)
			wantCode(t, "Boot", c.Boot(), api.OK)
		}
		d := recovered(t, c)
		want(t, d, api.Read{Addr: 1}, got(1, true))
		want(t, d, api.Read{Addr: 3}, refused(api.ErrNone))
		wantCounts(t, "Recover", d, 3, 1)
	}
}

// P19.1: Format over a chip that holds another device: nothing of that is there, behind a crash neither, however often.
func TestFormatAnew(t *testing.T) {
	d := begun(t)
	c := d.Chip()
	for round := range 30 {
		wantDone(t, d, dirty(1, round), dirty(2, round), fill(3, round), dirty(uint64(100+round), round))
		name := "n" + strconv.Itoa(round)
		if round%2 == 1 {
			d = again(t, c)
		}
		var e error
		d, e = ssc.Format(c, name)
		wantCode(t, "Format", e, api.OK)
		for _, behind := range []string{"Format", "a crash"} {
			if d.Label() != name {
				t.Errorf("behind %s: %q", behind, d.Label())
			}
			wantCounts(t, "behind "+behind, d, 0, 0)
			want(t, d, api.Exists{Many: mostMany}, listed())
			for _, addr := range []uint64{1, 2, 3, uint64(100 + round)} {
				want(t, d, api.Read{Addr: addr}, refused(api.ErrNone))
				want(t, d, api.Clean{Addr: addr}, refused(api.ErrNone))
			}
			d = again(t, c)
		}
	}
	if c.Misuse() != 0 {
		t.Errorf("Misuse: %d", c.Misuse())
	}
}

// P19.1, T2: a Format that the power goes in leaves the device that stood there, all of it, or makes the new one.
func TestFormatInTheDark(t *testing.T) {
	script := []api.Command{dirty(1, 1), dirty(2, 2), fill(3, 3), dirty(2, 4), dirty(5, 5), api.Evict{Addr: 5}}
	for i := range 40 {
		script = append(script, dirty(uint64(i%7)+10, i))
	}
	calm := begun(t)
	wantDone(t, calm, script...)
	before := calm.Chip().Ops()
	all, isDirty := calm.Counts()
	formatted(t, calm.Chip())
	cost := calm.Chip().Ops() - before
	olds := 0
	for at := 1; at <= cost; at++ {
		for _, there := range []int{0, 1, size + 27, size + 28} {
			c := chip(t, small(), nil, api.Mishap{At: before + at, Kind: api.Dark, Bytes: there, Fill: byte(there)})
			wantDone(t, formatted(t, c), script...)
			d, e := ssc.Format(c, "new")
			wantNoDevice(t, "Format", d, e, api.ErrDark)
			d = again(t, c)
			if d.Label() == "new" {
				wantCounts(t, "a new one", d, 0, 0)
				continue
			}
			olds++
			wantCounts(t, "the old one", d, all, isDirty)
			want(t, d, api.Read{Addr: 2}, got(4, true))
			want(t, d, api.Read{Addr: 16}, got(34, true))
			wantDone(t, d, dirty(5, 6))
		}
	}
	if olds < cost {
		t.Errorf("the old one is there %d times", olds)
	}
}

// P19.1: while blocks fail, a Format takes others; it is ErrWorn, if more than Room are marked behind it.
func TestFormatFails(t *testing.T) {
	fails := func(many int) []api.Mishap {
		var ms []api.Mishap
		for i := range many {
			ms = append(ms, api.Mishap{At: 1 + 2*i, Kind: api.Fails, Bytes: 50})
		}
		return ms
	}
	for _, marks := range []int{0, 1, room} {
		for many := range blocks - marks + 1 {
			c := chip(t, small(), firsts(marks), fails(many)...)
			d, e := ssc.Format(c, "shelf")
			if marks+many > room {
				wantNoDevice(t, strconv.Itoa(many)+" fail", d, e, api.ErrWorn)
				continue
			}
			wantCode(t, strconv.Itoa(many)+" fail", e, api.OK)
			wantCounts(t, "Format", again(t, c), 0, 0)
		}
	}
}

// P19.1: Format makes a device, whatever stands on the chip: pages of the greatest numbers, too, and of others' logs.
func TestFormatOverAnything(t *testing.T) {
	for _, h := range []api.Head{
		{Kind: api.KindData, Addr: 5, Seq: greatestSeq},
		{Kind: api.KindSeg, Seq: greatestSeq, Gen: greatestGen},
		{Kind: api.KindNote, Seq: 1, Gen: greatestGen},
		{Kind: api.KindClean, Addr: math.MaxUint64, Seq: greatestSeq - 3, Gen: greatestGen - 3},
	} {
		c := chip(t, small(), nil, api.Mishap{At: 40, Kind: api.Fails})
		s, e := store.New(c)
		wantCode(t, "store.New", e, api.OK)
		for range 30 {
			_, e = s.Put(h, some(size, h.Kind))
			wantCode(t, "Put", e, api.OK)
		}
		d, e := ssc.Format(c, "shelf")
		if e != nil {
			t.Fatalf("over %v: %v", h, e)
		}
		for i := range 100 {
			wantDone(t, d, dirty(uint64(i%5), i))
		}
		want(t, again(t, c), api.Read{Addr: 4}, got(99, true))
	}
	// In a marked block they stay, in one that fails, too: there might be too few numbers beyond.
	for _, h := range []api.Head{{Kind: api.KindSeg, Seq: greatestSeq}, {Kind: api.KindData, Seq: greatestSeq - 999}, {Kind: api.KindNote, Seq: 9, Gen: greatestGen - 999}} {
		for _, fails := range []bool{false, true} {
			var ms []api.Mishap
			if fails {
				// A page is programmed, and read; three blocks are erased.
				ms = append(ms, api.Mishap{At: 6, Kind: api.Fails})
			}
			c := chip(t, small(), nil, ms...)
			raw, e := head.Lay(some(size, 1), h)
			wantCode(t, "Lay", e, api.OK)
			wantCode(t, "Program", c.Program(3, 0, raw), api.OK)
			if !fails {
				wantCode(t, "Mark", c.Mark(3), api.OK)
			}
			d, e := ssc.Format(c, "shelf")
			wantNoDevice(t, "great numbers in a marked block", d, e, api.ErrWorn)
			if c.Misuse() != 0 || !c.Marked(3) || c.Wear(3) != 0 || c.Wear(4) != 1 {
				t.Errorf("Misuse %d, Marked %v, Wear %d, %d", c.Misuse(), c.Marked(3), c.Wear(3), c.Wear(4))
			}
		}
	}
	// Numbers that are great, but leave enough beyond, are no reason to make a block blank.
	c := chip(t, small(), nil)
	raw, e := head.Lay(some(size, 1), api.Head{Kind: api.KindSeg, Seq: greatestSeq / 2, Gen: greatestGen / 2})
	wantCode(t, "Lay", e, api.OK)
	wantCode(t, "Program", c.Program(3, 0, raw), api.OK)
	formatted(t, c)
	for b := range blocks {
		if c.Wear(b) != 0 {
			t.Errorf("block %d: Wear %d", b, c.Wear(b))
		}
	}
}

// P19.1: the power goes in a Format that has to make blocks blank: it is ErrDark, and well the next time.
func TestFormatOverGreatestInTheDark(t *testing.T) {
	for at := 21; at < 60; at++ {
		c := chip(t, small(), nil, api.Mishap{At: at, Kind: api.Dark, Fill: 9})
		s, e := store.New(c)
		wantCode(t, "store.New", e, api.OK)
		for range 20 {
			_, e = s.Put(api.Head{Kind: api.KindSeg, Seq: greatestSeq, Gen: greatestGen}, some(size, 1))
			wantCode(t, "Put", e, api.OK)
		}
		d, e := ssc.Format(c, "shelf")
		if e != nil {
			wantNoDevice(t, "Format", d, e, api.ErrDark)
			wantCode(t, "Boot", c.Boot(), api.OK)
			d = formatted(t, c)
		}
		want(t, d, api.Exists{Many: 1}, listed())
		if c.Misuse() != 0 {
			t.Errorf("Misuse: %d", c.Misuse())
		}
	}
}

// P19.1: an entry whose page is not its own, for whatever reason, is no block of the device's.
func TestRecoverStrangers(t *testing.T) {
	c := chip(t, small(), nil)
	s, e := store.New(c)
	wantCode(t, "store.New", e, api.OK)
	l, e := maplog.Format(s, "shelf")
	wantCode(t, "maplog.Format", e, api.OK)
	put := func(addr uint64) api.Entry {
		seq := l.Number()
		page, e := s.Put(api.Head{Kind: api.KindData, Addr: addr, Seq: seq}, some(size, seq))
		wantCode(t, "Put", e, api.OK)
		return api.Entry{Addr: addr, Page: page, Dirty: true, Seq: seq}
	}
	own, older, other := put(1), put(2), put(3)
	older.Seq--
	other.Addr = 4
	nowhere := api.Entry{Addr: 5, Page: 63, Dirty: true, Seq: 9}
	for _, one := range []api.Entry{own, older, other, nowhere} {
		wantCode(t, "Commit", l.Commit(api.Note{Entry: one}), api.OK)
	}
	d := again(t, c)
	wantCounts(t, "Recover", d, 1, 1)
	want(t, d, api.Read{Addr: 1}, api.Got{Data: some(size, own.Seq), Dirty: true})
	for addr := uint64(2); addr < 6; addr++ {
		want(t, d, api.Read{Addr: addr}, refused(api.ErrNone))
	}
	for i := range 60 {
		wantDone(t, d, dirty(uint64(2+i%8), i))
	}
	wantCounts(t, "behind commands", again(t, c), 9, 9)
}

// P19.1: Counts behind each change, and behind recoveries.
func TestCounts(t *testing.T) {
	d := begun(t)
	for i, x := range []struct {
		c          api.Command
		all, dirty int
	}{
		{dirty(1, 1), 1, 1}, {dirty(1, 2), 1, 1}, {dirty(2, 1), 2, 2}, {fill(3, 1), 3, 2}, {fill(3, 2), 3, 2},
		{fill(2, 2), 3, 1}, {dirty(3, 3), 3, 2}, {api.Clean{Addr: 3}, 3, 1}, {api.Clean{Addr: 3}, 3, 1},
		{api.Evict{Addr: 3}, 2, 1}, {api.Evict{Addr: 3}, 2, 1}, {api.Evict{Addr: 1}, 1, 0}, {dirty(0, 4), 2, 1}, {api.Evict{Addr: 2}, 1, 1},
	} {
		wantDone(t, d, x.c)
		wantCounts(t, "the "+strconv.Itoa(i)+"-th", d, x.all, x.dirty)
		if i%2 == 0 {
			d = again(t, d.Chip())
			wantCounts(t, "the "+strconv.Itoa(i)+"-th, recovered", d, x.all, x.dirty)
		}
	}
}

// stranger is a command that is none of the six.
type stranger struct{ api.Read }

// panics is another one, which isn't to be asked anything.
type panics struct{}

func (panics) Name() string { panic("asked") }

// P19.2, R5: what is no command, or may not be, is refused with ErrInvalid, in the dark, too: no operation is done, and nothing changes.
func TestInvalid(t *testing.T) {
	d := begun(t)
	wantDone(t, d, dirty(1, 1), fill(2, 2))
	write, clean, none := dirty(1, 9), fill(1, 9), (*api.Read)(nil)
	for _, isOn := range []bool{true, false} {
		was := faceOf(d)
		for i, c := range []api.Command{
			nil, &write, &clean, &api.Read{Addr: 1}, &api.Evict{Addr: 1}, &api.Clean{Addr: 1}, &api.Exists{Many: 1}, none,
			stranger{}, &stranger{}, panics{},
			api.WriteDirty{Addr: 1}, api.WriteDirty{Addr: 1, Data: some(size-1, 3)}, api.WriteDirty{Addr: 1, Data: some(size+1, 3)},
			api.WriteClean{Addr: 1}, api.WriteClean{Addr: 1, Data: some(size-1, 3)}, api.WriteClean{Addr: 1, Data: some(size+1, 3)},
			api.Exists{Many: -1}, api.Exists{Many: mostMany + 1}, api.Exists{Many: math.MinInt}, api.Exists{Many: math.MaxInt},
		} {
			if a, ok := d.Do(c).(api.Refused); !ok || a.Code != api.ErrInvalid {
				t.Errorf("the %d-th: %v", i, a)
			}
			wantFace(t, "the "+strconv.Itoa(i)+"-th", d, was)
		}
		if isOn {
			want(t, d, api.Read{Addr: 1}, got(1, true))
			want(t, d, api.Read{Addr: 2}, got(2, false))
			d.Chip().Off()
		}
	}
}

// P19.2: with the power off each command is ErrDark, also one that needs no operation, and nothing changes; what is told of the device is told still.
func TestDark(t *testing.T) {
	d := begun(t)
	wantDone(t, d, dirty(1, 1), fill(2, 2))
	d.Chip().Off()
	was := faceOf(d)
	for _, c := range []api.Command{
		dirty(1, 9), dirty(7, 9), fill(1, 9), api.Read{Addr: 1}, api.Read{Addr: 7}, api.Evict{Addr: 1}, api.Evict{Addr: 7},
		api.Clean{Addr: 1}, api.Clean{Addr: 2}, api.Clean{Addr: 7}, api.Exists{Many: 5}, api.Exists{},
	} {
		want(t, d, c, refused(api.ErrDark))
		wantFace(t, "in the dark", d, was)
	}
	wantCounts(t, "in the dark", d, 2, 1)
	if d.Label() != "shelf" || d.Size() != size {
		t.Errorf("%q, %d", d.Label(), d.Size())
	}
	d = again(t, d.Chip())
	want(t, d, api.Read{Addr: 1}, got(1, true))
	want(t, d, api.Read{Addr: 2}, got(2, false))
	want(t, d, api.Read{Addr: 7}, refused(api.ErrNone))
}

// P19.2: what needs nothing of the chip does no operation; a read does one.
func TestOperations(t *testing.T) {
	d := begun(t)
	wantDone(t, d, dirty(1, 1), fill(2, 2))
	was := d.Chip().Ops()
	want(t, d, api.Exists{Many: mostMany}, listed(1))
	want(t, d, api.Read{Addr: 3}, refused(api.ErrNone))
	want(t, d, api.Clean{Addr: 3}, refused(api.ErrNone))
	wantDone(t, d, api.Evict{Addr: 3}, api.Clean{Addr: 2})
	if d.Chip().Ops() != was {
		t.Errorf("%d operations", d.Chip().Ops()-was)
	}
	want(t, d, api.Read{Addr: 2}, got(2, false))
	if d.Chip().Ops() != was+1 {
		t.Errorf("a read has %d operations", d.Chip().Ops()-was)
	}
}

// P19.2: lists from any address, of any many, side by side; the least and the greatest address, too.
func TestLists(t *testing.T) {
	c := chip(t, large(), nil)
	d := formatted(t, c)
	var addrs []uint64
	for i := range 100 {
		addr := uint64(i) * uint64(i) * 0x0123456789ab
		switch {
		case i == 99:
			addr = math.MaxUint64
		case i%9 == 4:
			wantDone(t, d, api.WriteClean{Addr: addr, Data: some(256, i)})
			continue
		}
		wantDone(t, d, api.WriteDirty{Addr: addr, Data: some(256, i)})
		addrs = append(addrs, addr)
	}
	for _, d := range []*ssc.Device{d, again(t, c)} {
		for _, from := range append([]uint64{0, 1, math.MaxUint64 - 1}, addrs...) {
			for _, from := range []uint64{max(from, 1) - 1, from, min(from, math.MaxUint64-1) + 1} {
				at, _ := slices.BinarySearch(addrs, from)
				for _, many := range []int{0, 1, 2, 7, mostMany - 1, mostMany} {
					want(t, d, api.Exists{From: from, Many: many}, listed(addrs[at:min(at+many, len(addrs))]...))
				}
			}
		}
		want(t, d, api.Read{Addr: 0}, api.Got{Data: some(256, 0), Dirty: true})
		want(t, d, api.Read{Addr: math.MaxUint64}, api.Got{Data: some(256, 99), Dirty: true})
	}
}

// R3: each method of a nil device.
func TestNil(t *testing.T) {
	var d *ssc.Device
	for _, c := range []api.Command{nil, dirty(1, 1), api.Read{}, api.Exists{Many: -1}, &api.Evict{}} {
		want(t, d, c, refused(api.ErrNil))
	}
	wantCounts(t, "nil", d, 0, 0)
	if d.Label() != "" || d.Size() != 0 || d.Chip() != nil {
		t.Errorf("nil: %q, %d, %v", d.Label(), d.Size(), d.Chip())
	}
}

// R4: data that is handed in is not changed and not kept, its spare room neither; what is answered shares no memory with another answer, nor with what the device holds.
func TestMemory(t *testing.T) {
	d := begun(t)
	long := some(size+9, 3)
	data := long[:size]
	wantDone(t, d, api.WriteDirty{Addr: 1, Data: data}, api.WriteClean{Addr: 2, Data: data}, api.WriteDirty{Addr: 3, Data: data})
	if !bytes.Equal(long, some(size+9, 3)) {
		t.Errorf("what was handed in is changed: %v", long)
	}
	for i := range long {
		long[i] ^= 0xff
	}
	for range 3 {
		for addr, isDirty := range []bool{1: true, 2: false, 3: true} {
			if addr == 0 {
				continue
			}
			want(t, d, api.Read{Addr: uint64(addr)}, api.Got{Data: some(size+9, 3)[:size], Dirty: isDirty})
			a := api.Plain(d.Do(api.Read{Addr: uint64(addr)})).Data
			for i := range a[:cap(a)] {
				a[:cap(a)][i] ^= 0xff
			}
		}
		want(t, d, api.Exists{Many: 9}, listed(1, 3))
		addrs := api.Plain(d.Do(api.Exists{Many: 9})).Addrs
		for i := range addrs {
			addrs[i] += 5
		}
	}
}

// P19.2: example 6 of the whole: a block fails: it is marked, and another one is taken; none of what is there is lost.
func TestBlockFails(t *testing.T) {
	for at := 2; at <= 40; at++ {
		c := chip(t, small(), nil, api.Mishap{At: at, Kind: api.Fails, Bytes: 3 * at})
		d := formatted(t, c)
		for i := range 20 {
			wantDone(t, d, dirty(uint64(i%5), i))
		}
		for _, d := range []*ssc.Device{d, again(t, c)} {
			for i := 15; i < 20; i++ {
				want(t, d, api.Read{Addr: uint64(i % 5)}, got(i, true))
			}
		}
		if bad := marked(c); bad > 1 || bad == 0 && at < 40 {
			t.Errorf("the %d-th operation fails: %d are marked", at, bad)
		}
	}
}

// marked answers how many blocks of a chip are marked.
func marked(c *nand.Chip) int {
	many := 0
	for b := range c.Geometry().Blocks {
		if c.Marked(b) {
			many++
		}
	}
	return many
}

// P19.2: example 10 of the whole: too many blocks fail: writes are refused, what is there is read, behind a crash, too.
func TestTooManyFail(t *testing.T) {
	var ms []api.Mishap
	for i := range room + 1 {
		// Behind each a block is marked.
		ms = append(ms, api.Mishap{At: 8 + 2*i, Kind: api.Fails, Bytes: 9 * i})
	}
	c := chip(t, small(), nil, ms...)
	d := formatted(t, c)
	wantDone(t, d, dirty(0, 1), dirty(1, 2), dirty(2, 3))
	wantDone(t, d, dirty(1, 4))
	if marked(c) != room+1 {
		t.Fatalf("%d are marked", marked(c))
	}
	for range 2 {
		was := c.Ops()
		for _, c := range []api.Command{dirty(1, 0), dirty(9, 0), fill(9, 0), fill(1, 0), api.Evict{Addr: 1}, api.Clean{Addr: 1}} {
			want(t, d, c, refused(api.ErrWorn))
		}
		want(t, d, api.WriteDirty{}, refused(api.ErrInvalid))
		if c.Ops() != was {
			t.Errorf("%d operations", c.Ops()-was)
		}
		for addr, i := range []int{1, 4, 3} {
			want(t, d, api.Read{Addr: uint64(addr)}, got(i, true))
		}
		want(t, d, api.Exists{Many: 9}, listed(0, 1, 2))
		want(t, d, api.Read{Addr: 9}, refused(api.ErrNone))
		d = again(t, c)
	}
	d, e := ssc.Format(c, "shelf")
	wantNoDevice(t, "Format", d, e, api.ErrWorn)
}

// P19.2, P19.3: all blocks fail within one command: it is ErrFail, for no more are dirty than may be, and changes nothing; from then on it is ErrWorn.
func TestAllFail(t *testing.T) {
	for _, c := range []api.Command{dirty(1, 9), dirty(3, 9), fill(1, 9), fill(3, 9), api.Evict{Addr: 1}, api.Clean{Addr: 1}} {
		var ms []api.Mishap
		for i := range blocks {
			// Behind the checkpoint and two writes; behind each a block is marked.
			ms = append(ms, api.Mishap{At: 6 + 2*i, Kind: api.Fails, Bytes: 9 * i})
		}
		d := formatted(t, chip(t, small(), nil, ms...))
		wantDone(t, d, dirty(1, 1), fill(2, 2))
		want(t, d, c, refused(api.ErrFail))
		// The first one is full, so nothing is put there.
		if many := marked(d.Chip()); many != blocks-1 {
			t.Fatalf("%d are marked", many)
		}
		for range 2 {
			want(t, d, c, refused(api.ErrWorn))
			want(t, d, api.Read{Addr: 1}, got(1, true))
			want(t, d, api.Read{Addr: 2}, got(2, false))
			want(t, d, api.Exists{Many: 9}, listed(1))
			wantCounts(t, "behind it", d, 2, 1)
			d = again(t, d.Chip())
		}
	}
}

// P19.2: example 5 of the whole: a page is torn, and what stood there at last stands there still.
func TestTorn(t *testing.T) {
	for there := range size + 28 {
		c := chip(t, small(), nil, api.Mishap{At: 4, Kind: api.Dark, Bytes: there})
		d := formatted(t, c)
		wantDone(t, d, dirty(1, 1))
		want(t, d, dirty(1, 2), refused(api.ErrDark))
		want(t, again(t, c), api.Read{Addr: 1}, got(1, true))
	}
}

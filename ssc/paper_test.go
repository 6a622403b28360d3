package ssc_test

import (
	"math"
	"slices"
	"strconv"
	"testing"

	"scullery/api"
	"scullery/ideal"
	"scullery/nand"
	"scullery/plan"
	"scullery/ssc"
	"scullery/wear"
)

// width is how many bytes a page of the small size has with its head.
const width = size + 28

// geometries are the least and the greatest one, and ones between, those among them that keep the fewest blocks back for so many that hold entries.
func geometries() []api.Geometry {
	return []api.Geometry{
		small(), large(),
		{Blocks: 28, Pages: 8, Size: 256}, {Blocks: 28, Pages: 4, Size: 256}, {Blocks: 28, Pages: 6, Size: 255},
		{Blocks: 32, Pages: 4, Size: 256}, {Blocks: 32, Pages: 8, Size: 128}, {Blocks: 16, Pages: 8, Size: 132},
		{Blocks: 22, Pages: 5, Size: 173}, {Blocks: 17, Pages: 7, Size: 224},
	}
}

// drawn answers numbers from 0 to below another one, the same ones each time.
func drawn(from int) func(below int) int {
	state := uint64(from)*2862933555777941757 + 3037000493
	return func(below int) int {
		state = state*6364136223846793005 + 1442695040888963407
		return int((state >> 33) % uint64(below))
	}
}

// mishaps are so many ones behind so many operations, whose numbers rise by at most some number.
func mishaps(draw func(int) int, behind, many, most int, kinds ...int) []api.Mishap {
	var ms []api.Mishap
	for range many {
		behind += 1 + draw(most)
		there := []int{0, 1, draw(300), width, 9999}[draw(5)]
		ms = append(ms, api.Mishap{At: behind, Kind: kinds[draw(len(kinds))], Bytes: there, Fill: []byte{0, 255, 9}[draw(3)]})
	}
	return ms
}

// judged is a device that is held against its ideal, and against what is promised of its chip.
type judged struct {
	g       api.Geometry
	c       *nand.Chip
	d       *ssc.Device
	m       *ideal.Ideal
	crashes int
	isWell  bool // no block fails, or is marked
	fulls   int
}

// judge answers such a device, which is new.
func judge(t *testing.T, c *nand.Chip, isWell bool) *judged {
	t.Helper()
	x := &judged{g: c.Geometry(), c: c, isWell: isWell}
	for {
		if !c.On() {
			wantCode(t, "Boot", c.Boot(), api.OK)
		}
		d, e := ssc.Format(c, "shelf")
		if e == nil {
			x.d, x.m = d, ideal.New(x.g.Size)
			return x
		}
		wantNoDevice(t, "Format", d, e, api.ErrDark)
		x.crashes++
	}
}

// dirtyBut answers at how many other addresses a dirty block may be.
func (x *judged) dirtyBut(addr uint64) int {
	_, may := x.m.Dirty()
	many := len(may)
	if slices.Contains(may, addr) {
		many--
	}
	return many
}

// ask asks, and fails, if that may not be told, or may not cost so much; behind a crash the device is recovered.
func (x *judged) ask(t *testing.T, o api.Order) api.Reply {
	t.Helper()
	ops, bad, others := x.c.Ops(), marked(x.c), x.dirtyBut(o.Addr)
	r := api.Plain(x.d.Do(api.Make(o)))
	what := "kind " + strconv.Itoa(o.Kind) + " of " + strconv.FormatUint(o.Addr, 10) + " is told " + strconv.Itoa(r.Kind) + ", " + strconv.Itoa(int(r.Code))
	if !x.m.Take(o, r) {
		t.Fatal(what)
	}
	if isDark := r.Kind == 4 && r.Code == api.ErrDark; isDark == x.c.On() && r.Code != api.ErrInvalid {
		t.Fatalf("%s, with the power %v", what, x.c.On())
	}
	switch r.Code {
	case api.ErrFull:
		x.fulls++
		isWrite := o.Kind == api.OrderDirty && others >= plan.Limit(x.g, bad)
		if !isWrite && (x.isWell || o.Kind == api.OrderDirty) {
			t.Fatalf("%s, while %d others are dirty, and %d blocks are marked", what, others, bad)
		}
	case api.ErrFail, api.ErrWorn:
		if x.isWell {
			t.Fatal(what)
		}
	}
	if most := plan.Of(x.g).Most; x.isWell && x.c.Ops()-ops > most {
		t.Fatalf("%s: %d operations of %d", what, x.c.Ops()-ops, most)
	}
	if !x.c.On() {
		x.recover(t)
	}
	x.look(t, what)
	return r
}

// look fails, if blocks are worn too unevenly, or the chip is misused, or as many blocks are counted as can't be.
func (x *judged) look(t *testing.T, what string) {
	t.Helper()
	if s := spread(x.c); s > plan.Spread(x.g, x.crashes) || x.c.Misuse() != 0 {
		t.Fatalf("%s: Spread %d behind %d crashes, Misuse %d", what, s, x.crashes, x.c.Misuse())
	}
	sure, may := x.m.Dirty()
	if all, isDirty := x.d.Counts(); isDirty < len(sure) || isDirty > len(may) || all < isDirty || all > len(x.m.Addrs()) {
		t.Fatalf("%s: Counts %d, %d, of %d, and from %d to %d", what, all, isDirty, len(x.m.Addrs()), len(sure), len(may))
	}
}

// spread is the unlikeness of the erases of blocks that are not marked.
func spread(c *nand.Chip) int {
	var ws []int
	var counts []bool
	for b := range c.Geometry().Blocks {
		ws, counts = append(ws, c.Wear(b)), append(counts, !c.Marked(b))
	}
	return wear.Spread(ws, counts)
}

// crash takes the power, and recovers.
func (x *judged) crash(t *testing.T) {
	t.Helper()
	x.c.Off()
	x.recover(t)
}

// recover boots the chip, and recovers the device, again and again, if the power goes meanwhile.
func (x *judged) recover(t *testing.T) {
	t.Helper()
	for {
		x.crashes++
		wantCode(t, "Boot", x.c.Boot(), api.OK)
		d, e := ssc.Recover(x.c)
		if e == nil {
			x.d = d
			break
		}
		wantNoDevice(t, "Recover", d, e, api.ErrDark)
		if x.c.On() {
			t.Fatal("Recover: ErrDark, and there is power")
		}
	}
	if x.d.Label() != "shelf" {
		t.Fatalf("Recover: %q", x.d.Label())
	}
	x.look(t, "Recover")
}

// readAll reads all that may be there, and lists it.
func (x *judged) readAll(t *testing.T) {
	t.Helper()
	for _, addr := range x.m.Addrs() {
		x.ask(t, api.Order{Kind: api.OrderRead, Addr: addr})
	}
	for from, is := uint64(0), true; is; {
		r := x.ask(t, api.Order{Kind: api.OrderExists, Addr: from, Many: mostMany})
		if is = len(r.Addrs) == mostMany && r.Addrs[mostMany-1] < math.MaxUint64; is {
			from = r.Addrs[mostMany-1] + 1
		}
	}
}

// order is one by a number, of so many addresses.
func order(draw func(int) int, size, addrs int) api.Order {
	o := api.Order{Kind: []int{1, 1, 1, 1, 2, 2, 3, 4, 5, 6}[draw(10)], Addr: ^uint64(draw(addrs) * 3)}
	switch o.Kind {
	case api.OrderDirty, api.OrderFill:
		o.Data = some(size, draw(200))
	case api.OrderExists:
		o.Many = draw(mostMany + 1)
		o.Addr -= uint64(draw(9))
	}
	if draw(60) > 0 {
		return o
	}
	switch o.Kind {
	case api.OrderDirty, api.OrderFill:
		o.Data = append(o.Data, 9) // none may have so many bytes
	case api.OrderExists:
		o.Many += 1 + mostMany // none may have so many
	}
	return o
}

// P19.2 to P19.5, T1, T2, T4, T5: long drawn scripts over each geometry, with no, one and two marked blocks, without a crash, and with ones between.
func TestDrawnScripts(t *testing.T) {
	t.Parallel()
	for i, g := range geometries() {
		for marks := range 3 {
			for _, every := range []int{0, 25} {
				draw := drawn(100*i + 10*marks + every)
				x := judge(t, chip(t, g, firsts(marks)), marks == 0)
				addrs := plan.Limit(g, marks)*5/4 + 1
				for range 300 {
					if r := x.ask(t, order(draw, g.Size, addrs)); r.Code == api.ErrFail || r.Code == api.ErrWorn {
						t.Fatalf("%v, %d marked: %d", g, marks, r.Code)
					}
					if every > 0 && draw(every) == 0 {
						x.crash(t)
					}
				}
				x.readAll(t)
			}
		}
	}
}

// P19.3, T4: just as many dirty blocks as the limit lets, each of them written over, again and again, go well; one more is refused, and a clean write, an eviction and a cleaning go well then; with no, one and two marked blocks, and with all but one that may be, crashes between, too.
func TestRoom(t *testing.T) {
	t.Parallel()
	for i, g := range geometries() {
		room := plan.Of(g).Room
		for _, marks := range []int{0, 1, 2, room - 1} {
			for _, every := range []int{0, 4}[:2-min(marks, 3)/3] {
				x := judge(t, chip(t, g, firsts(marks)), marks == 0)
				draw := drawn(100*i + marks)
				limit := plan.Limit(g, marks)
				addr := func(i int) uint64 { return ^uint64(i * i * 3) }
				well := func(o api.Order) {
					t.Helper()
					if r := x.ask(t, o); r.Kind != 1 {
						t.Fatalf("%v, %d marked: kind %d: %d", g, marks, o.Kind, r.Code)
					}
					if every > 0 && draw(every) == 0 {
						x.crash(t)
					}
				}
				stride := 1 + draw(9)
				for n := range 2*limit + limit/2 {
					k := n % limit
					if n >= 2*limit {
						k = n * stride % limit
					}
					well(api.Order{Kind: api.OrderDirty, Addr: addr(k), Data: some(g.Size, n)})
				}
				fresh := api.Order{Kind: api.OrderDirty, Addr: 5, Data: some(g.Size, 1)}
				if r := x.ask(t, fresh); r.Kind != 4 || r.Code != api.ErrFull {
					t.Fatalf("%v, %d marked: beyond the limit: %d, %d", g, marks, r.Kind, r.Code)
				}
				for n := range 20 {
					well(api.Order{Kind: api.OrderFill, Addr: uint64(10 + n%7), Data: some(g.Size, n)})
					well(api.Order{Kind: api.OrderDirty, Addr: addr(draw(limit)), Data: some(g.Size, n)})
				}
				if r := x.ask(t, fresh); r.Code != api.ErrFull {
					t.Fatalf("%v, %d marked: beyond the limit: %d, %d", g, marks, r.Kind, r.Code)
				}
				well(api.Order{Kind: api.OrderEvict, Addr: addr(0)})
				well(fresh)
				if r := x.ask(t, api.Order{Kind: api.OrderDirty, Addr: addr(0), Data: some(g.Size, 1)}); r.Code != api.ErrFull {
					t.Fatalf("%v, %d marked: beyond the limit: %d, %d", g, marks, r.Kind, r.Code)
				}
				well(api.Order{Kind: api.OrderClean, Addr: fresh.Addr})
				well(api.Order{Kind: api.OrderDirty, Addr: addr(0), Data: some(g.Size, 1)})
				// A dirty one among as many as may be becomes a clean one, and is none of them any more.
				well(api.Order{Kind: api.OrderFill, Addr: addr(limit - 1), Data: some(g.Size, 1)})
				well(fresh)
				for n := range limit - 1 {
					well(api.Order{Kind: 4 + n%2, Addr: addr(n)})
				}
				if _, isDirty := x.d.Counts(); isDirty != 1 {
					t.Fatalf("%v, %d marked: %d are dirty", g, marks, isDirty)
				}
			}
		}
	}
}

// P19.3: with as many marked blocks as may be none may be dirty: a dirty write is refused without an operation, and all else goes well.
func TestNoRoom(t *testing.T) {
	for _, g := range geometries() {
		x := judge(t, chip(t, g, firsts(plan.Of(g).Room)), false)
		was := x.c.Ops()
		if r := x.ask(t, api.Order{Kind: api.OrderDirty, Addr: 1, Data: some(g.Size, 1)}); r.Code != api.ErrFull || x.c.Ops() != was {
			t.Fatalf("%v: %d, %d, %d operations", g, r.Kind, r.Code, x.c.Ops()-was)
		}
		for i := range 200 {
			addr := uint64(i % 9)
			if r := x.ask(t, api.Order{Kind: api.OrderFill, Addr: addr, Data: some(g.Size, i)}); r.Kind != 1 {
				t.Fatalf("%v: a clean write: %d", g, r.Code)
			}
			if r := x.ask(t, api.Order{Kind: api.OrderRead, Addr: addr}); r.Kind != 2 {
				t.Fatalf("%v: what was just written: %d", g, r.Code)
			}
			if i%5 == 0 {
				x.ask(t, api.Order{Kind: api.OrderEvict, Addr: addr})
			}
		}
	}
}

// P19.4, P19.5, T5: one address is written again and again, while as many others as may be stay as they are: blocks are worn evenly, and each write takes few enough operations; with crashes, too.
func TestWear(t *testing.T) {
	t.Parallel()
	for i, g := range geometries() {
		for _, every := range []int{0, 40}[:1+i%2] {
			draw := drawn(i + every)
			x := judge(t, chip(t, g, nil), true)
			limit := plan.Limit(g, 0)
			for n := range limit {
				x.ask(t, api.Order{Kind: api.OrderDirty, Addr: uint64(n), Data: some(g.Size, n)})
			}
			for n := range 1200 {
				x.ask(t, api.Order{Kind: api.OrderDirty, Addr: uint64(7 % limit), Data: some(g.Size, n)})
				if every > 0 && draw(every) == 0 {
					x.crash(t)
				}
			}
			x.readAll(t)
			if least := leastWear(x.c); least < 3 {
				t.Errorf("%v: a block is worn %d times", g, least)
			}
		}
	}
}

// leastWear is how often the block was erased that is worn least.
func leastWear(c *nand.Chip) int {
	least := c.Wear(0)
	for b := range c.Geometry().Blocks {
		least = min(least, c.Wear(b))
	}
	return least
}

// P19.2: example 4 of the whole: where room is made, dirty blocks are copied, and clean ones given up, but not all of them, and not the one that was just written.
func TestGivenUp(t *testing.T) {
	t.Parallel()
	for _, g := range geometries() {
		x := judge(t, chip(t, g, nil), true)
		for n := range 9 {
			x.ask(t, api.Order{Kind: api.OrderDirty, Addr: uint64(n), Data: some(g.Size, n)})
		}
		many := plan.Of(g).Pages
		for n := range 3 * many {
			x.ask(t, api.Order{Kind: api.OrderFill, Addr: uint64(100 + n), Data: some(g.Size, n)})
			if r := x.ask(t, api.Order{Kind: api.OrderRead, Addr: uint64(100 + n)}); r.Kind != 2 {
				t.Fatalf("%v: what was just written: %d", g, r.Code)
			}
		}
		all, isDirty := x.d.Counts()
		if isDirty != 9 || all < 9+g.Pages || all > many {
			t.Errorf("%v: %d are there, %d of them dirty", g, all, isDirty)
		}
		for n := range 9 {
			if r := x.ask(t, api.Order{Kind: api.OrderRead, Addr: uint64(n)}); r.Kind != 2 || !r.Dirty {
				t.Errorf("%v: %d is told %d, %d", g, n, r.Kind, r.Code)
			}
		}
	}
}

// script are orders that fill a chip of the small geometry, so that checkpoints are made, and blocks emptied.
func script(many int) []api.Order {
	draw := drawn(4711)
	var os []api.Order
	for range many {
		os = append(os, order(draw, size, 14))
	}
	return os
}

// P19.2, P19.5, T1, T2: the power goes at each operation of a script, within each kind of operation, at how many bytes whatever, and again and again within the recovery, and while a block is marked: each answer may be told.
func TestCrashAtEach(t *testing.T) {
	t.Parallel()
	os := script(80)
	calm := judge(t, chip(t, small(), nil), true)
	for _, o := range os {
		calm.ask(t, o)
	}
	last := calm.c.Ops()
	if calm.d.Gen() < 4 || spread(calm.c) == 0 {
		t.Fatalf("the script is too calm: %d operations, %d checkpoints", last, calm.d.Gen())
	}
	for at := 1; at <= last; at++ {
		for i, ms := range [][]api.Mishap{
			{{At: at, Kind: api.Dark, Bytes: at % width, Fill: byte(at)}},
			{{At: at, Kind: api.Dark, Bytes: width - 1, Fill: 255}, {At: at + 1, Kind: api.Dark}, {At: at + 2 + at%40, Kind: api.Dark}, {At: at + 60, Kind: api.Dark, Bytes: width}},
			{{At: at, Kind: api.Dark, Bytes: width, Fill: 0}, {At: at + 50 + at%9, Kind: api.Dark, Bytes: 3}},
			{{At: at, Kind: api.Fails, Bytes: 77}, {At: at + 1, Kind: api.Dark}},
			{{At: at, Kind: api.Fails, Bytes: width}, {At: at + 2, Kind: api.Dark, Bytes: at, Fill: 7}, {At: at + 70, Kind: api.Fails}},
		} {
			x := judge(t, chip(t, small(), nil, ms...), i < 3)
			for _, o := range os {
				x.ask(t, o)
			}
			x.readAll(t)
			if x.crashes == 0 && i < 3 {
				t.Fatalf("mishaps %v: no crash", ms)
			}
		}
	}
}

// P19.2, T2: blocks fail at each operation of a script, one alone, and several one behind the other: each answer may be told, and none is lost.
func TestFailAtEach(t *testing.T) {
	t.Parallel()
	os := script(70)
	for at := 1; at <= 260; at++ {
		for _, ms := range [][]api.Mishap{
			{{At: at, Kind: api.Fails, Bytes: at % width}},
			{{At: at, Kind: api.Fails}, {At: at + 2, Kind: api.Fails, Bytes: 9}},
			{{At: at, Kind: api.Fails}, {At: at + 1, Kind: api.Fails}, {At: at + 2, Kind: api.Fails}, {At: at + 3, Kind: api.Fails}, {At: at + 4, Kind: api.Fails}, {At: at + 30, Kind: api.Fails}},
		} {
			x := judge(t, chip(t, small(), nil, ms...), false)
			for i, o := range os {
				r := x.ask(t, o)
				if len(ms) < 3 && (r.Code == api.ErrFail || r.Code == api.ErrWorn) {
					t.Fatalf("mishaps %v: %d: %d", ms, i, r.Code)
				}
				if i%30 == 29 {
					x.crash(t)
				}
			}
			x.readAll(t)
		}
	}
}

// P19.2 to P19.5: behind a long script, by which blocks are worn unevenly, the power goes at each operation of the next commands, that even that out.
func TestCrashWhileLevelling(t *testing.T) {
	t.Parallel()
	g := api.Geometry{Blocks: 22, Pages: 5, Size: 173}
	hot := func(x *judged, from, to int) {
		t.Helper()
		for n := from; n < to; n++ {
			x.ask(t, api.Order{Kind: api.OrderDirty, Addr: 3, Data: some(g.Size, n)})
		}
	}
	begin := func(to int, ms ...api.Mishap) *judged {
		t.Helper()
		x := judge(t, chip(t, g, nil, ms...), true)
		for n := range plan.Limit(g, 0) {
			x.ask(t, api.Order{Kind: api.OrderDirty, Addr: uint64(n), Data: some(g.Size, n)})
		}
		hot(x, 0, to)
		return x
	}
	// The first write that has by far the most operations is the one.
	calm := begin(0)
	from, before := 0, 0
	for n := 0; from == 0; n++ {
		before = calm.c.Ops()
		hot(calm, n, n+1)
		if calm.c.Ops()-before > 100 && spread(calm.c) > api.Threshold {
			from = n
		}
		if n > 3000 {
			t.Fatal("nothing is levelled")
		}
	}
	cost := calm.c.Ops() - before
	for at := 1; at <= cost; at += 2 {
		x := begin(from, api.Mishap{At: before + at, Kind: api.Dark, Bytes: 9999 * (at / 2 % 2), Fill: byte(at)}, api.Mishap{At: before + at + 150, Kind: api.Dark})
		hot(x, from, from+4)
		if x.crashes == 0 {
			t.Fatalf("no crash at %d", before+at)
		}
		x.readAll(t)
	}
}

// P19.2 to P19.5: hundreds of crashes, within commands and recoveries, and between, over chips that are as full as may be: nothing is lost, nothing is refused below the limit, and what is asked ends within moments.
func TestCrashManyTimes(t *testing.T) {
	t.Parallel()
	for i, g := range geometries() {
		draw := drawn(i)
		limit := plan.Limit(g, 0)
		x := judge(t, chip(t, g, nil, mishaps(draw, 12*limit, 24, 700, api.Dark)...), true)
		for n := range limit {
			x.ask(t, api.Order{Kind: api.OrderDirty, Addr: uint64(n), Data: some(g.Size, n)})
		}
		for n := range 400 {
			o := order(draw, g.Size, 9)
			if draw(4) > 0 {
				o = api.Order{Kind: api.OrderDirty, Addr: uint64(draw(limit)), Data: some(g.Size, n)}
			}
			x.ask(t, o)
			if draw(3) == 0 {
				x.crash(t)
			}
		}
		x.readAll(t)
		if x.crashes < 100 {
			t.Errorf("%v: %d crashes", g, x.crashes)
		}
	}
}

// P19.2: blocks fail, and the power goes, many times over, some blocks being marked from the beginning: each answer may be told, and what is there is read at the end.
func TestFailManyTimes(t *testing.T) {
	t.Parallel()
	for from := range 120 {
		draw := drawn(7000 + from)
		g := geometries()[from%len(geometries())]
		c := chip(t, g, firsts(draw(3)), mishaps(draw, 30, 24, 20+draw(150), api.Fails, api.Fails, api.Dark)...)
		x := judge(t, c, false)
		for range 250 {
			x.ask(t, order(draw, g.Size, plan.Limit(g, 0)))
			if draw(50) == 0 {
				x.crash(t)
			}
		}
		x.readAll(t)
	}
}

// R5: the same calls over two chips of the same state answer the same, and leave them the same; so does a device that is recovered from each.
func TestSame(t *testing.T) {
	for i, g := range geometries() {
		var xs [2]*judged
		for k := range xs {
			xs[k] = judge(t, chip(t, g, []int{3}, mishaps(drawn(i), 50, 12, 200, api.Fails, api.Dark)...), false)
			draw := drawn(i)
			for range 250 {
				xs[k].ask(t, order(draw, g.Size, 40))
			}
		}
		wantFace(t, "the other one", xs[1].d, faceOf(xs[0].d))
		draw, other := drawn(i+1), drawn(i+1)
		for range 50 {
			o := order(draw, g.Size, 40)
			want(t, xs[1].d, api.Make(order(other, g.Size, 40)), xs[0].d.Do(api.Make(o)))
		}
	}
}

// R5: a command that is refused with another code than ErrDark, ErrFail and ErrWorn changes nothing that a later call could tell: two devices, of which one is asked such ones between, answer the same, with as many operations.
func TestRefusedChangesNothing(t *testing.T) {
	t.Parallel()
	for i, g := range geometries() {
		limit := plan.Limit(g, 1)
		var xs [2]*judged
		for k := range xs {
			xs[k] = judge(t, chip(t, g, []int{5}), false)
			for n := range limit {
				xs[k].ask(t, api.Order{Kind: api.OrderDirty, Addr: uint64(n), Data: some(g.Size, n)})
			}
		}
		draw, other := drawn(i), drawn(i)
		for range 120 {
			was := faceOf(xs[1].d)
			want(t, xs[1].d, api.WriteDirty{Addr: 1 << 40, Data: some(g.Size, 9)}, refused(api.ErrFull))
			want(t, xs[1].d, api.Clean{Addr: 1 << 40}, refused(api.ErrNone))
			want(t, xs[1].d, api.Read{Addr: 1 << 40}, refused(api.ErrNone))
			want(t, xs[1].d, api.WriteClean{Addr: 1, Data: some(g.Size-1, 9)}, refused(api.ErrInvalid))
			wantFace(t, "refused", xs[1].d, was)
			a := api.Order{Kind: api.OrderDirty, Addr: uint64(draw(limit)), Data: some(g.Size, draw(99))}
			b := api.Order{Kind: api.OrderDirty, Addr: uint64(other(limit)), Data: some(g.Size, other(99))}
			xs[0].ask(t, a)
			xs[1].ask(t, b)
			wantFace(t, "behind a command", xs[1].d, faceOf(xs[0].d))
		}
		xs[0].crash(t)
		xs[1].crash(t)
		wantFace(t, "behind a crash", xs[1].d, faceOf(xs[0].d))
	}
}

// P19.3: where blocks failed, and more are dirty than may be, a clean write is refused, and changes nothing, and so is a dirty one, till as few others are dirty as may be; evictions and cleanings go well.
func TestFullOfClean(t *testing.T) {
	before := 200
	var ms []api.Mishap
	for i := range 2 {
		ms = append(ms, api.Mishap{At: before + 2*i, Kind: api.Fails})
	}
	x := judge(t, chip(t, small(), nil, ms...), false)
	limit := plan.Limit(small(), 0)
	for n := 0; marked(x.c) < 2; n++ {
		x.ask(t, api.Order{Kind: api.OrderDirty, Addr: uint64(n % limit), Data: some(size, n)})
	}
	few := plan.Limit(small(), 2)
	for isDirty := limit; isDirty > few; isDirty-- {
		wantCounts(t, "so far", x.d, isDirty, isDirty)
		was := faceOf(x.d)
		os := []api.Order{{Kind: api.OrderDirty, Addr: 99}, {Kind: api.OrderDirty, Addr: uint64(limit - 1)}, {Kind: api.OrderFill, Addr: 99}, {Kind: api.OrderFill, Addr: uint64(limit - 1)}}
		if isDirty == few+1 {
			os = os[:3]
		}
		for _, o := range os {
			o.Data = some(size, 1)
			if r := x.ask(t, o); r.Code != api.ErrFull {
				t.Errorf("%d are dirty: kind %d of %d: %d, %d", isDirty, o.Kind, o.Addr, r.Kind, r.Code)
			}
			wantFace(t, "refused", x.d, was)
		}
		addr := uint64(limit - isDirty)
		if r := x.ask(t, api.Order{Kind: 4 + isDirty%2, Addr: addr}); r.Kind != 1 {
			t.Errorf("kind %d: %d", 4+isDirty%2, r.Code)
		}
		x.ask(t, api.Order{Kind: api.OrderEvict, Addr: addr})
	}
	for _, o := range []api.Order{{Kind: api.OrderDirty, Addr: uint64(limit - 1)}, {Kind: api.OrderFill, Addr: 99}} {
		o.Data = some(size, 1)
		if r := x.ask(t, o); r.Kind != 1 {
			t.Errorf("%d are dirty: kind %d: %d", few, o.Kind, r.Code)
		}
	}
}

// P19.3, example 6 of the whole: blocks fail now and then: a write is refused only for want of room, an eviction and a cleaning never, as long as no more are marked than may be.
func TestFailNowAndThen(t *testing.T) {
	t.Parallel()
	for from := range 150 {
		draw := drawn(9000 + from)
		g := api.Geometry{Blocks: 16 + draw(17), Pages: 4 + draw(5), Size: 128 + draw(129)}
		x := judge(t, chip(t, g, nil, mishaps(draw, 1, 12, 100, api.Fails)...), false)
		addrs := plan.Limit(g, 0)
		for n := range 500 {
			o := order(draw, g.Size, addrs)
			if draw(3) > 0 {
				o = api.Order{Kind: api.OrderDirty, Addr: ^uint64(draw(addrs) * 3), Data: some(g.Size, n)}
			}
			others := x.dirtyBut(o.Addr)
			r := x.ask(t, o)
			isMuch := others >= plan.Limit(g, marked(x.c))
			if (r.Code == api.ErrFail || r.Code == api.ErrFull) && !isMuch || r.Code == api.ErrWorn && marked(x.c) <= plan.Of(g).Room {
				t.Fatalf("script %d, %v: the %d-th: kind %d: %d, while %d others are dirty, and %d are marked", from, g, n, o.Kind, r.Code, others, marked(x.c))
			}
		}
		x.readAll(t)
	}
}

// T2: what stands behind a page tells whether its block was written as dirty, or as clean; a copy is of a dirty one.
func TestKinds(t *testing.T) {
	x := judge(t, chip(t, small(), nil), true)
	kinds := map[int]map[uint64]struct{}{api.KindData: {}, api.KindClean: {}}
	for n := range 90 {
		x.ask(t, api.Order{Kind: api.OrderDirty, Addr: uint64(1 + n%5), Data: some(size, n)})
		x.ask(t, api.Order{Kind: api.OrderFill, Addr: uint64(11 + n%5), Data: some(size, n)})
		for _, page := range x.d.Store().Needed() {
			if h, _ := x.d.Store().Head(page); h.Kind == api.KindData || h.Kind == api.KindClean {
				kinds[h.Kind][h.Addr] = struct{}{}
			}
		}
	}
	for kind, least := range map[int]uint64{api.KindData: 1, api.KindClean: 11} {
		if len(kinds[kind]) != 5 {
			t.Errorf("kind %d: %v", kind, kinds[kind])
		}
		for addr := range kinds[kind] {
			if addr < least || addr > least+4 {
				t.Errorf("kind %d: %v", kind, kinds[kind])
			}
		}
	}
}

// P19.4: the blocks that a checkpoint takes are free as soon as there is another one: behind its parts nothing else stands in their last block.
func TestCheckpointEndsBlock(t *testing.T) {
	for _, g := range geometries() {
		x := judge(t, chip(t, g, nil), true)
		first, draw := x.d.Gen(), drawn(1)
		for range 300 {
			x.ask(t, order(draw, g.Size, plan.Limit(g, 0)))
			if x.d.Gen() == first {
				continue // Format's own
			}
			last := -1
			for _, page := range x.d.Store().Needed() {
				h, _ := x.d.Store().Head(page)
				if last >= 0 && page/g.Pages == last && h.Kind != api.KindSeg {
					t.Fatalf("%v: page %d of kind %d stands behind a part", g, page, h.Kind)
				}
				if h.Kind == api.KindSeg {
					last = page / g.Pages
				}
			}
		}
		if x.d.Gen() < first+2 {
			t.Errorf("%v: %d checkpoints", g, x.d.Gen()-first)
		}
	}
}

// P19.4: where few are dirty, room costs little: a write has few operations beside its own two, and just now and then there is a checkpoint.
func TestCheap(t *testing.T) {
	for _, g := range geometries() {
		for _, kind := range []int{api.OrderDirty, api.OrderFill} {
			x := judge(t, chip(t, g, nil), true)
			before, gen := x.c.Ops(), x.d.Gen()
			const many = 600
			for n := range many {
				x.ask(t, api.Order{Kind: kind, Addr: uint64(n * n % 10), Data: some(g.Size, n)})
			}
			if cost := x.c.Ops() - before; cost > 9*many/2 || x.d.Gen()-gen > many/3 {
				t.Errorf("%v: %d writes have %d operations, and %d checkpoints", g, many, cost, x.d.Gen()-gen)
			}
		}
	}
}

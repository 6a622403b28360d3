package table_test

import (
	"math"
	"slices"
	"testing"

	"scullery/api"
	"scullery/table"
)

// greatest is the greatest address.
const greatest = math.MaxUint64

// put puts an entry, and fails, if the one that stood there is told as another one than was, or not told as there.
func put(t *testing.T, tab *table.Table, e, was api.Entry, is bool) {
	t.Helper()
	if got, ok := tab.Put(e); got != was || ok != is {
		t.Fatalf("Put(%+v): %+v, %t, not %+v, %t", e, got, ok, was, is)
	}
}

// drop drops an address's entry, and fails likewise.
func drop(t *testing.T, tab *table.Table, addr uint64, was api.Entry, is bool) {
	t.Helper()
	if got, ok := tab.Drop(addr); got != was || ok != is {
		t.Fatalf("Drop(%d): %+v, %t, not %+v, %t", addr, got, ok, was, is)
	}
}

// get fails, if something else stands at an address.
func get(t *testing.T, tab *table.Table, addr uint64, e api.Entry, is bool) {
	t.Helper()
	if got, ok := tab.Get(addr); got != e || ok != is {
		t.Fatalf("Get(%d): %+v, %t, not %+v, %t", addr, got, ok, e, is)
	}
}

// from answers what From is to answer of entries by rising Addrs, as the document words it.
func from(es []api.Entry, addr uint64, many int, dirty bool) []api.Entry {
	var out []api.Entry
	for _, e := range es {
		if e.Addr >= addr && (!dirty || e.Dirty) {
			out = append(out, e)
		}
	}
	return out[:max(0, min(many, len(out)))]
}

// manys are the numbers of entries that are asked for, if there are so many.
func manys(there int) []int {
	return []int{math.MinInt, -1, 0, 1, 2, there - 1, there, there + 1, math.MaxInt}
}

// wantFrom fails, if From answers something else of an address than these entries make.
func wantFrom(t *testing.T, tab *table.Table, es []api.Entry, addr uint64) {
	t.Helper()
	for _, many := range manys(len(es)) {
		for _, dirty := range []bool{false, true} {
			if got, want := tab.From(addr, many, dirty), from(es, addr, many, dirty); !slices.Equal(got, want) {
				t.Fatalf("From(%d, %d, %t): %v, not %v", addr, many, dirty, got, want)
			}
		}
	}
}

// wantSums fails, if a table tells of all its entries something else than of these, which stand by rising Addrs.
func wantSums(t *testing.T, tab *table.Table, es []api.Entry) {
	t.Helper()
	if got := tab.All(); !slices.Equal(got, es) {
		t.Fatalf("All: %v, not %v", got, es)
	}
	dirty := 0
	for _, e := range es {
		if e.Dirty {
			dirty++
		}
	}
	if tab.Len() != len(es) || tab.Dirty() != dirty {
		t.Fatalf("Len, Dirty: %d, %d, not %d, %d", tab.Len(), tab.Dirty(), len(es), dirty)
	}
}

// want fails, if a table has something else than these entries, which stand by rising Addrs: it asks at each one, beside each one, and at both ends.
func want(t *testing.T, tab *table.Table, es ...api.Entry) {
	t.Helper()
	wantSums(t, tab, es)
	addrs := []uint64{0, 1, greatest - 1, greatest}
	for _, e := range es {
		get(t, tab, e.Addr, e, true)
		addrs = append(addrs, e.Addr-1, e.Addr, e.Addr+1)
	}
	for _, addr := range addrs {
		wantFrom(t, tab, es, addr)
		if !slices.ContainsFunc(es, func(e api.Entry) bool { return e.Addr == addr }) {
			get(t, tab, addr, api.Entry{}, false)
		}
	}
}

// of makes a table of these entries, put one behind the other.
func of(es ...api.Entry) *table.Table {
	tab := table.New()
	for _, e := range es {
		tab.Put(e)
	}
	return tab
}

// at is an entry that tells by its other fields whose it is.
func at(addr uint64) api.Entry {
	return api.Entry{Addr: addr, Page: int(addr%1000) + 1, Dirty: addr%3 == 0, Seq: int(addr % 100000)}
}

// ats are such entries of many addresses.
func ats(addrs ...uint64) []api.Entry {
	var out []api.Entry
	for _, addr := range addrs {
		out = append(out, at(addr))
	}
	return out
}

// mixed answers so many numbers, each of those below it once, in an order that neither rises nor falls.
func mixed(many int) []int {
	out := make([]int, many)
	n := uint64(1)
	for i := range out {
		n = n*6364136223846793005 + 1442695040888963407
		j := int(n >> 33 % uint64(i+1))
		out[i] = out[j]
		out[j] = i
	}
	return out
}

// The document's example.
func TestExample(t *testing.T) {
	put(t, table.New(), api.Entry{Addr: 5}, api.Entry{}, false)
}

// P13.1: of a new table nothing stands anywhere.
func TestNew(t *testing.T) {
	want(t, table.New())
	drop(t, table.New(), 0, api.Entry{}, false)
	drop(t, table.New(), greatest, api.Entry{}, false)
}

// P13.1: Put tells the one that stood there, whole; Get and Drop tell the one that stands there, as it was put.
func TestPutGetDrop(t *testing.T) {
	tab := table.New()
	first := api.Entry{Addr: 5, Page: 7, Dirty: true, Seq: 9}
	second := api.Entry{Addr: 5, Page: 8, Seq: 10}
	put(t, tab, first, api.Entry{}, false)
	want(t, tab, first)
	put(t, tab, first, first, true)
	want(t, tab, first)
	put(t, tab, second, first, true)
	want(t, tab, second)
	put(t, tab, first, second, true)
	want(t, tab, first)
	drop(t, tab, 6, api.Entry{}, false)
	drop(t, tab, 4, api.Entry{}, false)
	want(t, tab, first)
	drop(t, tab, 5, first, true)
	want(t, tab)
	drop(t, tab, 5, api.Entry{}, false)
	want(t, tab)
	put(t, tab, second, api.Entry{}, false)
	want(t, tab, second)
	drop(t, tab, 5, second, true)
	want(t, tab)
}

// P13.1: an entry that is zero but for its Addr, or in all, stands like any other one.
func TestZeroEntry(t *testing.T) {
	for _, addr := range []uint64{0, 5, greatest} {
		tab := table.New()
		zero := api.Entry{Addr: addr}
		put(t, tab, zero, api.Entry{}, false)
		want(t, tab, zero)
		put(t, tab, zero, zero, true)
		want(t, tab, zero)
		drop(t, tab, addr, zero, true)
		want(t, tab)
	}
}

// P13.1: Len and Dirty behind entries that are put over others, dirty over clean and the other way round, and behind those that are dropped.
func TestLenAndDirty(t *testing.T) {
	clean, dirty := api.Entry{Addr: 5, Page: 1}, api.Entry{Addr: 5, Page: 2, Dirty: true}
	beside := api.Entry{Addr: 9, Dirty: true}
	tab := of(beside)
	for _, step := range []struct {
		do          func()
		many, dirty int
	}{
		{func() { tab.Put(clean) }, 2, 1},
		{func() { tab.Put(dirty) }, 2, 2},
		{func() { tab.Put(dirty) }, 2, 2},
		{func() { tab.Put(clean) }, 2, 1},
		{func() { tab.Put(clean) }, 2, 1},
		{func() { tab.Drop(5) }, 1, 1},
		{func() { tab.Drop(5) }, 1, 1},
		{func() { tab.Put(dirty) }, 2, 2},
		{func() { tab.Drop(5) }, 1, 1},
		{func() { tab.Drop(9) }, 0, 0},
		{func() { tab.Drop(9) }, 0, 0},
	} {
		step.do()
		if tab.Len() != step.many || tab.Dirty() != step.dirty {
			t.Errorf("%d, %d, not %d, %d", tab.Len(), tab.Dirty(), step.many, step.dirty)
		}
	}
}

// P13.1: addresses of one bit alone, of all bits but one, and 0 and the greatest one, each an address of its own.
func TestBits(t *testing.T) {
	var addrs []uint64
	for bit := range 64 {
		addrs = append(addrs, 1<<bit, ^uint64(1<<bit))
	}
	addrs = append(addrs, 0, greatest)
	wantInAnyOrder(t, addrs)
}

// P13.1: addresses that share all but some bits, high ones and low ones.
func TestSharedBits(t *testing.T) {
	for _, shift := range []int{0, 4, 8, 16, 31, 32, 48, 56, 58} {
		for _, rest := range []uint64{0, 0x0123456789abcdef, greatest} {
			var addrs []uint64
			for bits := range uint64(64) {
				addrs = append(addrs, rest&^(63<<shift)|bits<<shift)
			}
			wantInAnyOrder(t, addrs)
		}
	}
}

// wantInAnyOrder fails, if a table of these addresses, each of which is told but once, has something else than them, in whatever order they were put, or are dropped.
func wantInAnyOrder(t *testing.T, addrs []uint64) {
	t.Helper()
	rising := slices.Sorted(slices.Values(addrs))
	falling := slices.Clone(rising)
	slices.Reverse(falling)
	shuffled := make([]uint64, len(rising))
	for i, j := range mixed(len(rising)) {
		shuffled[i] = rising[j]
	}
	all := ats(rising...)
	for _, order := range [][]uint64{addrs, rising, falling, shuffled} {
		tab := table.New()
		for _, e := range ats(order...) {
			put(t, tab, api.Entry{Addr: e.Addr, Page: -1, Dirty: !e.Dirty}, api.Entry{}, false)
		}
		for _, e := range ats(order...) {
			put(t, tab, e, api.Entry{Addr: e.Addr, Page: -1, Dirty: !e.Dirty}, true)
		}
		want(t, tab, all...)
		for i, addr := range order {
			drop(t, tab, addr, at(addr), true)
			if tab.Len() != len(order)-1-i {
				t.Errorf("Len behind %d drops: %d", i+1, tab.Len())
			}
		}
		want(t, tab)
	}
}

// P13.1: whatever stands in the other fields of an entry stands there as it was put.
func TestOtherFields(t *testing.T) {
	var all []api.Entry
	numbers := []int{math.MinInt, math.MinInt32, -1, 0, 1, 255, 1 << 40, math.MaxInt32, math.MaxInt}
	for _, page := range numbers {
		for _, seq := range numbers {
			for _, dirty := range []bool{false, true} {
				e := api.Entry{Addr: uint64(len(all)) * 3, Page: page, Dirty: dirty, Seq: seq}
				all = append(all, e)
				tab := of(e)
				want(t, tab, e)
				same := api.Entry{Addr: e.Addr, Page: seq, Dirty: !dirty, Seq: page}
				put(t, tab, same, e, true)
				want(t, tab, same)
				drop(t, tab, e.Addr, same, true)
			}
		}
	}
	want(t, of(all...), all...)
}

// P13.1: two entries may tell one page and one sequence: addresses alone tell them apart.
func TestAlike(t *testing.T) {
	a, b := api.Entry{Addr: 1, Page: 7, Dirty: true, Seq: 9}, api.Entry{Addr: 2, Page: 7, Dirty: true, Seq: 9}
	want(t, of(b, a), a, b)
}

// P13.1: All tells each address once, with its last entry, though each was put many times.
func TestLastOne(t *testing.T) {
	const many = 300
	tab := table.New()
	var all []api.Entry
	for round := range 5 {
		all = nil
		for _, i := range mixed(many) {
			tab.Put(api.Entry{Addr: uint64(i) * 7, Page: round, Dirty: (i+round)%2 == 0, Seq: i})
		}
		for i := range many {
			all = append(all, api.Entry{Addr: uint64(i) * 7, Page: round, Dirty: (i+round)%2 == 0, Seq: i})
		}
		wantSums(t, tab, all)
	}
	want(t, tab, all...)
}

// P13.1: From by hand: at an entry, between two, behind the last one, at both ends, and of so many.
func TestFrom(t *testing.T) {
	a := api.Entry{Addr: 0, Page: 1}
	b := api.Entry{Addr: 10, Page: 2, Dirty: true}
	c := api.Entry{Addr: 20, Page: 3}
	d := api.Entry{Addr: greatest, Page: 4, Dirty: true}
	tab := of(c, a, d, b)
	for _, x := range []struct {
		addr  uint64
		many  int
		dirty bool
		want  []api.Entry
	}{
		{0, 4, false, []api.Entry{a, b, c, d}},
		{0, 5, false, []api.Entry{a, b, c, d}},
		{0, math.MaxInt, false, []api.Entry{a, b, c, d}},
		{0, 3, false, []api.Entry{a, b, c}},
		{0, 1, false, []api.Entry{a}},
		{0, 0, false, nil},
		{0, -1, false, nil},
		{0, math.MinInt, false, nil},
		{1, 9, false, []api.Entry{b, c, d}},
		{10, 2, false, []api.Entry{b, c}},
		{11, 2, false, []api.Entry{c, d}},
		{21, 9, false, []api.Entry{d}},
		{greatest - 1, 9, false, []api.Entry{d}},
		{greatest, 9, false, []api.Entry{d}},
		{greatest, 0, false, nil},
		{0, 9, true, []api.Entry{b, d}},
		{0, 2, true, []api.Entry{b, d}},
		{0, 1, true, []api.Entry{b}},
		{0, 0, true, nil},
		{0, math.MinInt, true, nil},
		{10, 1, true, []api.Entry{b}},
		{11, 1, true, []api.Entry{d}},
		{greatest, math.MaxInt, true, []api.Entry{d}},
	} {
		if got := tab.From(x.addr, x.many, x.dirty); !slices.Equal(got, x.want) {
			t.Errorf("From(%d, %d, %t): %v, not %v", x.addr, x.many, x.dirty, got, x.want)
		}
	}
	tab.Drop(greatest)
	if got := tab.From(21, 9, false); len(got) != 0 {
		t.Errorf("behind the last one: %v", got)
	}
}

// P13.1: From, where no entry is dirty, and where all are.
func TestFromAllOrNoneDirty(t *testing.T) {
	for _, dirty := range []bool{false, true} {
		var all []api.Entry
		for i := range 40 {
			all = append(all, api.Entry{Addr: uint64(i*i) + 3, Page: i, Dirty: dirty})
		}
		want(t, of(all...), all...)
	}
}

// P13.1: lists of From from place to place, each from behind the last one, make All, and all dirty ones of it.
func TestFromPlaceToPlace(t *testing.T) {
	for _, there := range []int{0, 1, 2, 127, 128, 129, 130, 600} {
		tab := table.New()
		for _, i := range mixed(there) {
			tab.Put(at(uint64(i) * 11))
		}
		for _, many := range []int{1, 2, 7, 64, 128, 1000} {
			for _, dirty := range []bool{false, true} {
				if got, want := placeToPlace(tab, many, dirty), from(tab.All(), 0, there, dirty); !slices.Equal(got, want) {
					t.Errorf("of %d by %d, %t: %d, not %d", there, many, dirty, len(got), len(want))
				}
			}
		}
	}
}

// placeToPlace lists entries by so many at once.
func placeToPlace(tab *table.Table, many int, dirty bool) []api.Entry {
	var out []api.Entry
	for addr := uint64(0); ; {
		some := tab.From(addr, many, dirty)
		if len(some) == 0 {
			return out
		}
		out = append(out, some...)
		addr = some[len(some)-1].Addr + 1
	}
}

// P13.1: a Copy is the same in every call, and behind it each goes its own way, over and over.
func TestCopy(t *testing.T) {
	for _, there := range []int{0, 1, 2, 100, 128, 129, 500} {
		one := table.New()
		for _, i := range mixed(there) {
			one.Put(at(uint64(i) * 5))
		}
		all := one.All()
		other := one.Copy()
		wantSums(t, other, all)
		wantSums(t, other.Copy(), all)
		for round := range 3 {
			changed := changeAll(t, other, round)
			wantSums(t, one, all)
			kept := other.Copy()
			for _, e := range all {
				drop(t, one, e.Addr, e, true)
			}
			want(t, one)
			wantSums(t, other, changed)
			wantSums(t, kept, changed)
			for _, e := range all {
				put(t, one, e, api.Entry{}, false)
			}
			wantSums(t, one, all)
			wantSums(t, other, changed)
		}
	}
}

// changeAll puts other entries over all that a table has, and one ahead of each of them, drops every third one, and answers what is there then.
func changeAll(t *testing.T, tab *table.Table, round int) []api.Entry {
	t.Helper()
	for i, e := range tab.All() {
		changed := api.Entry{Addr: e.Addr, Page: -round, Dirty: !e.Dirty}
		ahead := api.Entry{Addr: e.Addr - 1, Seq: round + 1}
		was, is := tab.Get(ahead.Addr)
		put(t, tab, ahead, was, is)
		put(t, tab, changed, e, true)
		if i%3 == 0 {
			drop(t, tab, e.Addr, changed, true)
		}
	}
	there := tab.All()
	for _, e := range there {
		get(t, tab, e.Addr, e, true)
	}
	return there
}

// P13.1: a Copy is the same in From, too, and stays so while the other table changes.
func TestCopyFrom(t *testing.T) {
	tab := of(ats(3, 6, 7, 9, 12)...)
	c := tab.Copy()
	tab.Put(api.Entry{Addr: 7, Page: 77})
	tab.Drop(3)
	tab.Put(at(8))
	want(t, c, ats(3, 6, 7, 9, 12)...)
	c.Drop(12)
	want(t, tab, at(6), api.Entry{Addr: 7, Page: 77}, at(8), at(9), at(12))
	want(t, c, ats(3, 6, 7, 9)...)
}

// R3: every method of a nil pointer.
func TestNil(t *testing.T) {
	var tab *table.Table
	put(t, tab, at(3), api.Entry{}, false)
	get(t, tab, 3, api.Entry{}, false)
	drop(t, tab, 3, api.Entry{}, false)
	if tab.Len() != 0 || tab.Dirty() != 0 || len(tab.All()) != 0 || len(tab.From(0, 9, false)) != 0 || len(tab.From(0, 9, true)) != 0 || tab.Copy() != nil {
		t.Error("R3")
	}
}

// spoil writes over a list, and over the room beyond it.
func spoil(es []api.Entry) {
	es = es[:cap(es)]
	for i := range es {
		es[i] = api.Entry{Addr: 77777, Page: -77777, Dirty: !es[i].Dirty, Seq: -77777}
	}
}

// R4: what All and From answer is neither the table's own nor another answer's.
func TestAnswersAreNew(t *testing.T) {
	for _, there := range []int{1, 2, 60, 128, 129, 400} {
		tab := table.New()
		for _, i := range mixed(there) {
			tab.Put(at(uint64(i) * 2))
		}
		ask := []func() []api.Entry{
			tab.All,
			func() []api.Entry { return tab.From(0, there, false) },
			func() []api.Entry { return tab.From(2, 3, false) },
			func() []api.Entry { return tab.From(0, there, true) },
			tab.Copy().All,
		}
		for _, f := range ask {
			for _, g := range ask {
				one, other := f(), g()
				kept := slices.Clone(other)
				spoil(one)
				if !slices.Equal(other, kept) || !slices.Equal(g(), kept) {
					t.Errorf("of %d: an answer is not its own", there)
				}
			}
		}
		for i := range there {
			get(t, tab, uint64(i)*2, at(uint64(i)*2), true)
		}
	}
}

// R4: an answer stays as it is, whatever is put and dropped behind it.
func TestAnswersStay(t *testing.T) {
	tab := of(ats(1, 2, 3, 4, 5, 6)...)
	all, some, dirty := tab.All(), tab.From(2, 3, false), tab.From(0, 9, true)
	for i := range uint64(7) {
		tab.Put(api.Entry{Addr: i, Page: -5})
		tab.Put(at(i + 100))
		tab.Drop(i)
	}
	if !slices.Equal(all, ats(1, 2, 3, 4, 5, 6)) || !slices.Equal(some, ats(2, 3, 4)) || !slices.Equal(dirty, ats(3, 6)) {
		t.Errorf("%v, %v, %v", all, some, dirty)
	}
}

// R5: two tables do not mind one another.
func TestTwo(t *testing.T) {
	a, b := table.New(), table.New()
	for i := range uint64(200) {
		put(t, a, at(i), api.Entry{}, false)
		put(t, b, at(i*2), api.Entry{}, false)
		if i%4 == 0 {
			drop(t, a, i, at(i), true)
		}
	}
	var ofA, ofB []api.Entry
	for i := range uint64(200) {
		ofB = append(ofB, at(i*2))
		if i%4 != 0 {
			ofA = append(ofA, at(i))
		}
	}
	wantSums(t, a, ofA)
	wantSums(t, b, ofB)
}

// R5: the same calls answer the same, in whatever order entries came, and whatever stood there meanwhile.
func TestOrderDoesNotMatter(t *testing.T) {
	const many = 500
	rising, falling, shuffled, over := table.New(), table.New(), table.New(), table.New()
	for i, j := range mixed(many) {
		rising.Put(at(uint64(i) * 9))
		falling.Put(at(uint64(many-1-i) * 9))
		shuffled.Put(at(uint64(j) * 9))
		over.Put(api.Entry{Addr: uint64(j) * 9, Page: 5, Dirty: true})
		over.Put(at(uint64(i)*9 + 4))
	}
	for i := range uint64(many) {
		over.Drop(i*9 + 4)
		over.Put(at(i * 9))
	}
	all := rising.All()
	for _, tab := range []*table.Table{rising, falling, shuffled, over} {
		wantSums(t, tab, all)
		for _, addr := range []uint64{0, 1, 9, 2000, 9 * (many - 1), 9 * many} {
			wantFrom(t, tab, all, addr)
		}
	}
}

// P13.1: some ten thousands of entries, put, listed from place to place, and dropped again.
func TestMany(t *testing.T) {
	const many, step = 60000, 1<<48 + 1
	tab := table.New()
	var all []api.Entry
	for i := range uint64(many) {
		all = append(all, at(i*step))
	}
	for _, i := range mixed(many) {
		put(t, tab, all[i], api.Entry{}, false)
	}
	wantSums(t, tab, all)
	if got := placeToPlace(tab, api.MaxMany, false); !slices.Equal(got, all) {
		t.Errorf("From: %d", len(got))
	}
	if got, want := placeToPlace(tab, 1, true), from(all, 0, many, true); !slices.Equal(got, want) {
		t.Errorf("From: %d dirty, not %d", len(got), len(want))
	}
	var left []api.Entry
	for _, i := range mixed(many) {
		if i%5 != 0 {
			drop(t, tab, all[i].Addr, all[i], true)
		}
	}
	for i, e := range all {
		get(t, tab, e.Addr, left0(e, i), i%5 == 0)
		if i%5 == 0 {
			left = append(left, e)
		}
	}
	wantSums(t, tab, left)
	wantSums(t, tab.Copy(), left)
	for _, e := range left {
		drop(t, tab, e.Addr, e, true)
	}
	want(t, tab)
}

// left0 is what is left of the i-th entry of TestMany.
func left0(e api.Entry, i int) api.Entry {
	if i%5 == 0 {
		return e
	}
	return api.Entry{}
}

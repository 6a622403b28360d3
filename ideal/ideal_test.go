package ideal_test

import (
	"math"
	"slices"
	"strconv"
	"sync"
	"testing"

	"scullery/api"
	"scullery/ideal"
)

// The document's limits, in its own numbers, and the greatest address.
const (
	least    = 128
	greatest = 256
	many     = 64
	last     = math.MaxUint64
)

// seeds are how many data the tests hold against each other: some(1) to some(seeds).
const seeds = 4

// some are the bytes of a block that are told by a number: all but the last one are alike.
func some(seed int) []byte {
	out := make([]byte, least)
	for i := range out {
		out[i] = byte(3*i + 1)
	}
	out[least-1] = byte(seed)
	return out
}

// Orders.

func dirties(addr uint64, seed int) api.Order {
	return api.Order{Kind: api.OrderDirty, Addr: addr, Data: some(seed)}
}

func fills(addr uint64, seed int) api.Order {
	return api.Order{Kind: api.OrderFill, Addr: addr, Data: some(seed)}
}

func reads(addr uint64) api.Order {
	return api.Order{Kind: api.OrderRead, Addr: addr}
}

func evicts(addr uint64) api.Order {
	return api.Order{Kind: api.OrderEvict, Addr: addr}
}

func cleans(addr uint64) api.Order {
	return api.Order{Kind: api.OrderClean, Addr: addr}
}

func lists(from uint64, many int) api.Order {
	return api.Order{Kind: api.OrderExists, Addr: from, Many: many}
}

// Replies.

func done() api.Reply {
	return api.Reply{Kind: 1}
}

func dirty(seed int) api.Reply {
	return api.Reply{Kind: 2, Data: some(seed), Dirty: true}
}

func clean(seed int) api.Reply {
	return api.Reply{Kind: 2, Data: some(seed)}
}

func listed(addrs ...uint64) api.Reply {
	return api.Reply{Kind: 3, Addrs: addrs}
}

func refused(code api.Errno) api.Reply {
	return api.Reply{Kind: 4, Code: code}
}

func none() api.Reply {
	return refused(api.ErrNone)
}

func dark() api.Reply {
	return refused(api.ErrDark)
}

// every is one order of each Kind, on an address.
func every(addr uint64) []api.Order {
	return []api.Order{dirties(addr, 1), fills(addr, 1), reads(addr), evicts(addr), cleans(addr), lists(addr, 3)}
}

// codes are all codes that there are, and some that there are not.
func codes() []api.Errno {
	out := []api.Errno{-1, math.MinInt, 12, 1 << 32, math.MaxInt}
	for code := api.OK; code <= api.ErrDegraded; code++ {
		out = append(out, code)
	}
	return out
}

// word tells an order in short.
func word(o api.Order) string {
	name := "order of Kind " + strconv.Itoa(o.Kind)
	if c := api.Make(o); c != nil {
		name = c.Name()
	}
	return name + " " + strconv.FormatUint(o.Addr, 10) + " (" + strconv.Itoa(len(o.Data)) + " bytes, Many " + strconv.Itoa(o.Many) + ")"
}

// wordOf tells a reply in short.
func wordOf(r api.Reply) string {
	out := "Kind " + strconv.Itoa(r.Kind) + ", Code " + strconv.Itoa(int(r.Code)) + ", Dirty " + strconv.FormatBool(r.Dirty)
	if n := len(r.Data); n > 0 {
		out += ", " + strconv.Itoa(n) + " bytes that end by " + strconv.Itoa(int(r.Data[n-1]))
	}
	for _, addr := range r.Addrs {
		out += " " + strconv.FormatUint(addr, 10)
	}
	return out
}

// made answers an ideal of blocks of 128 bytes, and fails, if there is none.
func made(t *testing.T) *ideal.Ideal {
	t.Helper()
	m := ideal.New(least)
	if m == nil {
		t.Fatal("New: none")
	}
	return m
}

// took takes a reply that may be told, and fails, if it may not.
func took(t *testing.T, m *ideal.Ideal, o api.Order, r api.Reply) {
	t.Helper()
	if !m.Take(o, r) {
		t.Errorf("Take(%s; %s): false", word(o), wordOf(r))
	}
}

// wantNot fails, if a reply may be told, or if it changes what is told of all addresses that the tests know.
func wantNot(t *testing.T, m *ideal.Ideal, o api.Order, r api.Reply) {
	t.Helper()
	was := tellAll(m)
	if m.Take(o, r) {
		t.Errorf("Take(%s; %s): true", word(o), wordOf(r))
	}
	if is := tellAll(m); is != was {
		t.Errorf("Take(%s; %s) changed what may be from %s to %s", word(o), wordOf(r), was, is)
	}
}

// blocks are the replies to a read that the tests hold against each other.
func blocks() []api.Reply {
	out := []api.Reply{none()}
	for seed := 1; seed <= seeds; seed++ {
		out = append(out, dirty(seed), clean(seed))
	}
	return out
}

// isSame tells whether two replies are alike.
func isSame(a, b api.Reply) bool {
	return a.Kind == b.Kind && a.Code == b.Code && a.Dirty == b.Dirty && slices.Equal(a.Data, b.Data) && slices.Equal(a.Addrs, b.Addrs)
}

// want fails, if other blocks than these may be at an address: none() stands for nothing.
func want(t *testing.T, m *ideal.Ideal, addr uint64, rs ...api.Reply) {
	t.Helper()
	for _, r := range blocks() {
		may := slices.ContainsFunc(rs, func(other api.Reply) bool { return isSame(r, other) })
		if m.Can(addr, r) != may {
			t.Errorf("Can(%d, %s): %t", addr, wordOf(r), !may)
		}
	}
}

// known are the addresses that the tests speak of.
func known() []uint64 {
	return []uint64{0, 1, 4, 5, 6, 10, 20, 30, 40, 50, 1 << 63, last - 1, last}
}

// tellAll tells all that may be at the addresses that the tests speak of, and what all calls tell of them.
func tellAll(m *ideal.Ideal) string {
	out := ""
	for _, addr := range known() {
		for i, r := range blocks() {
			if m.Can(addr, r) {
				out += strconv.FormatUint(addr, 10) + ":" + strconv.Itoa(i) + " "
			}
		}
	}
	sure, may := m.Dirty()
	for _, addrs := range [][]uint64{sure, may, m.Addrs()} {
		out += "; " + wordOf(listed(addrs...))
	}
	return out
}

// wantDirty fails, if Dirty tells other addresses.
func wantDirty(t *testing.T, m *ideal.Ideal, sure, may []uint64) {
	t.Helper()
	gotSure, gotMay := m.Dirty()
	if !slices.Equal(gotSure, sure) || !slices.Equal(gotMay, may) {
		t.Errorf("Dirty: %v, %v, not %v, %v", gotSure, gotMay, sure, may)
	}
}

// wantAddrs fails, if Addrs tells other addresses.
func wantAddrs(t *testing.T, m *ideal.Ideal, addrs ...uint64) {
	t.Helper()
	if got := m.Addrs(); !slices.Equal(got, addrs) {
		t.Errorf("Addrs: %v, not %v", got, addrs)
	}
}

// over is an ideal at whose address 5 something may be.
type over struct {
	name string
	made func(t *testing.T) *ideal.Ideal
	may  []api.Reply
}

// overs are ideals of all sorts.
func overs() []over {
	after := func(name string, may []api.Reply, steps ...any) over {
		return over{name: name, may: may, made: func(t *testing.T) *ideal.Ideal {
			t.Helper()
			m := made(t)
			for i := 0; i < len(steps); i += 2 {
				took(t, m, steps[i].(api.Order), steps[i+1].(api.Reply))
			}
			return m
		}}
	}
	rs := func(rs ...api.Reply) []api.Reply { return rs }
	return []over{
		after("nothing", rs(none())),
		after("a dirty block", rs(dirty(1)), dirties(5, 1), done()),
		after("a clean block", rs(none(), clean(1)), fills(5, 1), done()),
		after("nothing or a dirty block", rs(none(), dirty(1)), dirties(5, 1), dark()),
		after("two dirty blocks", rs(dirty(1), dirty(2)), dirties(5, 2), done(), dirties(5, 1), dark()),
		after("two clean blocks", rs(none(), clean(1), clean(2)), fills(5, 2), done(), fills(5, 1), dark()),
		after("a dirty and a clean block", rs(none(), dirty(2), clean(1)), dirties(5, 2), done(), fills(5, 1), dark()),
		after("one block, dirty or clean", rs(none(), dirty(2), clean(2)), dirties(5, 2), done(), cleans(5), dark()),
		after("four blocks", rs(none(), dirty(1), dirty(2), clean(1), clean(2)), dirties(5, 2), done(), dirties(5, 1), dark(), cleans(5), dark()),
	}
}

// P18.1: which sizes may be.
func TestNew(t *testing.T) {
	for _, size := range []int{math.MinInt, -256, -128, -1, 0, 1, 28, 127, 257, 512, 1 << 32, 1<<32 + 128, math.MaxInt} {
		if ideal.New(size) != nil {
			t.Errorf("New(%d): one", size)
		}
	}
	for size := least; size <= greatest; size++ {
		m := ideal.New(size)
		if m == nil {
			t.Fatalf("New(%d): none", size)
		}
		for n := range 2*greatest + 1 {
			for _, kind := range []int{api.OrderDirty, api.OrderFill} {
				if m.May(api.Order{Kind: kind, Data: make([]byte, n)}) != (n == size) {
					t.Errorf("New(%d): May of Kind %d and %d bytes: %t", size, kind, n, n != size)
				}
			}
		}
	}
	m := made(t)
	want(t, m, 5, none())
	wantDirty(t, m, nil, nil)
	wantAddrs(t, m)
}

// P18.1: May of each Kind, of Data and of Many, each with each; it changes nothing, and hangs on nothing that is there.
func TestMay(t *testing.T) {
	for _, size := range []int{least, 200, greatest} {
		m := ideal.New(size)
		for _, kind := range []int{math.MinInt, -3, -1, 0, 1, 2, 3, 4, 5, 6, 7, 8, 1<<32 + 1, math.MaxInt} {
			for _, n := range []int{-1, 0, 1, size - 1, size, size + 1, 2 * size} {
				var data []byte
				if n >= 0 {
					data = make([]byte, n)
				}
				for _, number := range []int{math.MinInt, -1, 0, 1, 2, many - 1, many, many + 1, 1 << 32, math.MaxInt} {
					may := (kind == 1 || kind == 2) && n == size && number == 0 ||
						(kind == 3 || kind == 4 || kind == 5) && n <= 0 && number == 0 ||
						kind == 6 && n <= 0 && number >= 0 && number <= many
					for _, addr := range []uint64{0, 5, last} {
						o := api.Order{Kind: kind, Addr: addr, Data: data, Many: number}
						if m.May(o) != may {
							t.Errorf("size %d: May(%s): %t", size, word(o), !may)
						}
					}
				}
			}
		}
		if tellAll(m) != tellAll(ideal.New(size)) {
			t.Errorf("size %d: May changed something", size)
		}
	}
}

// awry are orders that may not be.
func awry() []api.Order {
	long := append(some(1), 0)
	return []api.Order{
		{}, {Kind: -1, Addr: 5}, {Kind: 7, Addr: 5}, {Kind: math.MinInt}, {Kind: math.MaxInt}, {Kind: 7, Data: some(1)},
		{Kind: api.OrderDirty, Addr: 5}, {Kind: api.OrderDirty, Addr: 5, Data: some(1)[1:]}, {Kind: api.OrderDirty, Addr: 5, Data: long}, {Kind: api.OrderDirty, Addr: 5, Data: some(1), Many: 1},
		{Kind: api.OrderFill, Addr: 5}, {Kind: api.OrderFill, Addr: 5, Data: some(1)[1:]}, {Kind: api.OrderFill, Addr: 5, Data: long}, {Kind: api.OrderFill, Addr: 5, Data: some(1), Many: -1},
		{Kind: api.OrderRead, Addr: 5, Data: some(1)}, {Kind: api.OrderRead, Addr: 5, Many: 1}, {Kind: api.OrderRead, Addr: 5, Data: []byte{0}},
		{Kind: api.OrderEvict, Addr: 5, Data: some(1)}, {Kind: api.OrderEvict, Addr: 5, Many: many},
		{Kind: api.OrderClean, Addr: 5, Data: some(1)}, {Kind: api.OrderClean, Addr: 5, Many: -1},
		{Kind: api.OrderExists, Many: -1}, {Kind: api.OrderExists, Many: many + 1}, {Kind: api.OrderExists, Many: 3, Data: some(1)}, {Kind: api.OrderExists, Data: []byte{0}},
	}
}

// sound are replies of each Kind, and of each code.
func sound() []api.Reply {
	out := []api.Reply{done(), dirty(1), clean(1), dirty(2), {Kind: 2}, {Kind: 2, Dirty: true}, {Kind: 2, Data: some(1)[1:]}, listed(), listed(5), listed(5, 10), listed(10)}
	for _, code := range codes() {
		out = append(out, refused(code))
	}
	return out
}

// unsound are replies that are Plain's of no answer.
func unsound() []api.Reply {
	out := []api.Reply{{}, {Kind: 0, Code: api.ErrDark}, {Kind: 0, Code: api.ErrInvalid}}
	for _, kind := range []int{-1, 5, 6, math.MinInt, math.MaxInt, 1<<32 + 1} {
		out = append(out, api.Reply{Kind: kind}, api.Reply{Kind: kind, Code: api.ErrDark}, api.Reply{Kind: kind, Code: api.ErrInvalid}, api.Reply{Kind: kind, Data: some(1), Dirty: true})
	}
	for _, code := range codes() {
		if code != api.OK {
			out = append(out, api.Reply{Kind: 1, Code: code}, api.Reply{Kind: 2, Code: code, Data: some(1), Dirty: true}, api.Reply{Kind: 2, Code: code, Data: some(1)}, api.Reply{Kind: 3, Code: code}, api.Reply{Kind: 3, Code: code, Addrs: []uint64{5}})
		}
		out = append(out, api.Reply{Kind: 4, Code: code, Dirty: true}, api.Reply{Kind: 4, Code: code, Data: some(1)}, api.Reply{Kind: 4, Code: code, Addrs: []uint64{5}}, api.Reply{Kind: 4, Code: code, Data: some(1), Dirty: true, Addrs: []uint64{5}})
	}
	return append(out,
		api.Reply{Kind: 1, Dirty: true}, api.Reply{Kind: 1, Data: some(1)}, api.Reply{Kind: 1, Data: []byte{0}}, api.Reply{Kind: 1, Addrs: []uint64{5}}, api.Reply{Kind: 1, Addrs: []uint64{0}},
		api.Reply{Kind: 2, Data: some(1), Addrs: []uint64{5}}, api.Reply{Kind: 2, Data: some(1), Dirty: true, Addrs: []uint64{5}},
		api.Reply{Kind: 3, Dirty: true}, api.Reply{Kind: 3, Data: some(1)}, api.Reply{Kind: 3, Addrs: []uint64{5}, Dirty: true}, api.Reply{Kind: 3, Addrs: []uint64{5}, Data: []byte{1}})
}

// P18.2: a reply that is Plain's of no answer may be told of no order, whatever may be there, and changes nothing.
func TestUnsoundReplies(t *testing.T) {
	for _, x := range overs() {
		m := x.made(t)
		was := tellAll(m)
		for _, r := range unsound() {
			for _, o := range append(append(every(5), lists(5, 1)), awry()...) {
				if m.Take(o, r) {
					t.Errorf("%s: Take(%s; %s): true", x.name, word(o), wordOf(r))
				}
			}
			if m.Can(5, r) {
				t.Errorf("%s: Can(5, %s): true", x.name, wordOf(r))
			}
			if is := tellAll(m); is != was {
				t.Fatalf("%s: a reply (%s) changed what may be from %s to %s", x.name, wordOf(r), was, is)
			}
		}
	}
}

// P18.2: lists that are empty are none.
func TestEmptyLists(t *testing.T) {
	m := made(t)
	empty := func(r api.Reply) api.Reply {
		r.Data, r.Addrs = append([]byte{}, r.Data...), append([]uint64{}, r.Addrs...)
		return r
	}
	took(t, m, dirties(5, 1), empty(done()))
	took(t, m, reads(5), empty(dirty(1)))
	took(t, m, lists(6, 3), empty(listed()))
	took(t, m, reads(6), empty(none()))
	took(t, m, api.Order{Kind: api.OrderEvict, Addr: 5, Data: []byte{}}, empty(done()))
	want(t, m, 5, none())
}

// P18.2: of an order that may not be, just ErrInvalid is told, and nothing changes; of one that may be, it is not told.
func TestInvalid(t *testing.T) {
	for _, x := range overs() {
		m := x.made(t)
		was := tellAll(m)
		for _, o := range awry() {
			for _, r := range sound() {
				if r.Kind == 4 && r.Code == api.ErrInvalid {
					took(t, m, o, r)
					continue
				}
				wantNot(t, m, o, r)
			}
		}
		if is := tellAll(m); is != was {
			t.Errorf("%s: orders that may not be changed it from %s to %s", x.name, was, is)
		}
		for _, o := range every(5) {
			wantNot(t, m, o, refused(api.ErrInvalid))
		}
	}
}

// P18.2: in the dark an order was done, or not: over each that may be, of each Kind.
func TestDark(t *testing.T) {
	// What each order makes of nothing, of a dirty block, and of a clean one.
	makes := []struct {
		o    api.Order
		made func(r api.Reply) []api.Reply
	}{
		{dirties(5, 3), func(api.Reply) []api.Reply { return []api.Reply{dirty(3)} }},
		{dirties(5, 1), func(api.Reply) []api.Reply { return []api.Reply{dirty(1)} }},
		{fills(5, 3), func(api.Reply) []api.Reply { return []api.Reply{none(), clean(3)} }},
		{fills(5, 1), func(api.Reply) []api.Reply { return []api.Reply{none(), clean(1)} }},
		{evicts(5), func(api.Reply) []api.Reply { return []api.Reply{none()} }},
		{cleans(5), func(r api.Reply) []api.Reply {
			if r.Kind == 2 {
				r.Dirty = false
				return []api.Reply{none(), r}
			}
			return []api.Reply{none()}
		}},
		{reads(5), func(r api.Reply) []api.Reply { return []api.Reply{r} }},
		{lists(5, 3), func(r api.Reply) []api.Reply { return []api.Reply{r} }},
		{lists(0, many), func(r api.Reply) []api.Reply { return []api.Reply{r} }},
		{lists(5, 0), func(r api.Reply) []api.Reply { return []api.Reply{r} }},
	}
	for _, x := range overs() {
		for _, k := range makes {
			m := x.made(t)
			took(t, m, k.o, dark())
			may := slices.Clone(x.may)
			for _, r := range x.may {
				may = append(may, k.made(r)...)
			}
			want(t, m, 5, may...)
			for _, addr := range []uint64{0, 4, 6, last} {
				want(t, m, addr, none())
			}
			if !m.Can(5, dark()) {
				t.Errorf("%s, %s: Can(5, dark): false", x.name, word(k.o))
			}
			// It may befall again: what is there then is no more.
			took(t, m, k.o, dark())
			want(t, m, 5, may...)
		}
	}
}

// P18.2: each code of each Kind of order, over each that may be; as it was is as it was, and what is refused changes nothing.
func TestRefusals(t *testing.T) {
	for _, x := range overs() {
		mayBeNothing := slices.ContainsFunc(x.may, func(r api.Reply) bool { return isSame(r, none()) })
		for _, code := range codes() {
			for _, o := range every(5) {
				isChange := o.Kind == api.OrderDirty || o.Kind == api.OrderFill || o.Kind == api.OrderEvict || o.Kind == api.OrderClean
				isAsWas, isNone := false, false
				switch code {
				case api.ErrDark:
					continue
				case api.ErrFull, api.ErrWorn:
					isAsWas = isChange
				case api.ErrFail:
					isAsWas = isChange || o.Kind == api.OrderRead
				case api.ErrNone:
					isNone = mayBeNothing && (o.Kind == api.OrderRead || o.Kind == api.OrderClean)
				}
				m := x.made(t)
				if isAsWas || isNone {
					took(t, m, o, refused(code))
				} else {
					wantNot(t, m, o, refused(code))
				}
				if isNone {
					want(t, m, 5, none())
					wantAddrs(t, m)
				} else {
					want(t, m, 5, x.may...)
				}
				want(t, m, 6, none())
			}
		}
	}
}

// P18.2: ErrNone: where nothing may be there; where a clean block may be, it was given up, and is not there behind it.
func TestNone(t *testing.T) {
	for _, ask := range []func(uint64) api.Order{reads, cleans} {
		m := made(t)
		took(t, m, ask(5), none())
		took(t, m, dirties(5, 1), done())
		wantNot(t, m, ask(5), none())
		took(t, m, fills(5, 2), done())
		took(t, m, ask(5), none())
		wantNot(t, m, reads(5), clean(2))
		wantNot(t, m, cleans(5), done())
		took(t, m, ask(5), none())
		took(t, m, dirties(5, 1), dark())
		took(t, m, ask(5), none())
		wantNot(t, m, reads(5), dirty(1))
		wantAddrs(t, m)
	}
}

// P18.2: what a reply of another Kind tells may not be told of an order.
func TestOtherKinds(t *testing.T) {
	for _, x := range overs() {
		m := x.made(t)
		for _, o := range every(5) {
			for _, r := range sound() {
				isOwn := r.Kind == 4 || r.Kind == 1 && (o.Kind == api.OrderDirty || o.Kind == api.OrderFill || o.Kind == api.OrderEvict || o.Kind == api.OrderClean) || r.Kind == 2 && o.Kind == api.OrderRead || r.Kind == 3 && o.Kind == api.OrderExists
				if !isOwn {
					wantNot(t, m, o, r)
				}
			}
		}
	}
}

// P18.3: what is written is there, filled is there or given up, evicted is gone, whatever was there.
func TestDone(t *testing.T) {
	for _, x := range overs() {
		for seed := 1; seed <= seeds; seed++ {
			m := x.made(t)
			took(t, m, dirties(5, seed), done())
			want(t, m, 5, dirty(seed))
			wantDirty(t, m, []uint64{5}, []uint64{5})
			wantAddrs(t, m, 5)
			wantNot(t, m, reads(5), none())

			m = x.made(t)
			took(t, m, fills(5, seed), done())
			want(t, m, 5, none(), clean(seed))
			wantDirty(t, m, nil, nil)
			wantAddrs(t, m, 5)
		}
		m := x.made(t)
		took(t, m, evicts(5), done())
		want(t, m, 5, none())
		wantDirty(t, m, nil, nil)
		wantAddrs(t, m)
	}
}

// P18.3: Clean that is done: each block that may be is clean, two that become alike are one; of nothing it is not told.
func TestClean(t *testing.T) {
	for _, x := range overs() {
		m := x.made(t)
		var may []api.Reply
		for _, r := range x.may {
			if r.Kind == 2 {
				r.Dirty = false
				may = append(may, r)
			}
		}
		if len(may) == 0 {
			wantNot(t, m, cleans(5), done())
			continue
		}
		took(t, m, cleans(5), done())
		want(t, m, 5, append(may, none())...)
		wantDirty(t, m, nil, nil)
		wantAddrs(t, m, 5)
		took(t, m, cleans(5), done())
		want(t, m, 5, append(may, none())...)
		// The one that is read is the only one, and is given up by itself.
		took(t, m, reads(5), may[0])
		want(t, m, 5, may[0], none())
		took(t, m, reads(5), none())
		wantNot(t, m, cleans(5), done())
	}
	m := made(t)
	wantNot(t, m, cleans(5), done())
	took(t, m, dirties(5, 1), done())
	wantNot(t, m, cleans(4), done())
	wantNot(t, m, cleans(6), done())
}

// P18.3: a block that is read, as it is: of other Data, of more or fewer bytes, or of the other Dirty it is not told; of several that may be, it is the one behind it.
func TestRead(t *testing.T) {
	for _, x := range overs() {
		for _, r := range blocks()[1:] {
			m := x.made(t)
			if !slices.ContainsFunc(x.may, func(other api.Reply) bool { return isSame(r, other) }) {
				wantNot(t, m, reads(5), r)
				continue
			}
			for _, data := range [][]byte{nil, {}, r.Data[:least-1], r.Data[1:], append(slices.Clone(r.Data), 0), make([]byte, least)} {
				wantNot(t, m, reads(5), api.Reply{Kind: 2, Data: data, Dirty: r.Dirty})
			}
			wantNot(t, m, reads(4), r)
			wantNot(t, m, reads(6), r)
			took(t, m, reads(5), r)
			behind := []api.Reply{r}
			if !r.Dirty {
				behind = append(behind, none())
			}
			want(t, m, 5, behind...)
			took(t, m, reads(5), r)
			want(t, m, 5, behind...)
			other := r
			other.Dirty = !r.Dirty
			wantNot(t, m, reads(5), other)
		}
	}
}

// P18.3: each byte of a block counts.
func TestEachByte(t *testing.T) {
	for _, size := range []int{least, greatest} {
		data := make([]byte, size)
		for i := range data {
			data[i] = byte(255 - i)
		}
		for _, kind := range []int{api.OrderDirty, api.OrderFill} {
			m := ideal.New(size)
			took(t, m, api.Order{Kind: kind, Addr: last, Data: data}, done())
			for i := range data {
				other := slices.Clone(data)
				other[i] ^= 1 << (i % 8)
				if m.Can(last, api.Reply{Kind: 2, Data: other, Dirty: kind == api.OrderDirty}) {
					t.Errorf("size %d: byte %d may be another one", size, i)
				}
			}
			took(t, m, reads(last), api.Reply{Kind: 2, Data: data, Dirty: kind == api.OrderDirty})
		}
	}
}

// P18.3: each address has its own block: 0 and the greatest one, too.
func TestAddresses(t *testing.T) {
	m := made(t)
	for i, addr := range known() {
		took(t, m, dirties(addr, 1+i%seeds), done())
	}
	for i, addr := range known() {
		want(t, m, addr, dirty(1+i%seeds))
	}
	wantDirty(t, m, known(), known())
	wantAddrs(t, m, known()...)
	took(t, m, lists(0, many), listed(known()...))
	took(t, m, lists(last, 1), listed(last))
	took(t, m, lists(last, many), listed(last))
	took(t, m, lists(0, 1), listed(0))
	wantNot(t, m, lists(last, 1), listed())
	took(t, m, lists(last, 0), listed())
	for _, addr := range known() {
		took(t, m, evicts(addr), done())
	}
	took(t, m, lists(0, many), listed())
	took(t, m, lists(last, many), listed())
	wantAddrs(t, m)
}

// shelf is an ideal of three dirty blocks, 10, 20, 30, a clean one, 40, and one that may be dirty, or not there, 50.
func shelf(t *testing.T) *ideal.Ideal {
	t.Helper()
	m := made(t)
	for i, addr := range []uint64{10, 20, 30} {
		took(t, m, dirties(addr, 1+i), done())
	}
	took(t, m, fills(40, 4), done())
	took(t, m, dirties(50, 1), dark())
	return m
}

// P18.3: which addresses may be listed.
func TestLists(t *testing.T) {
	for _, x := range []struct {
		what  string
		from  uint64
		many  int
		addrs []uint64
		may   bool
	}{
		{"all that must be", 0, many, []uint64{10, 20, 30}, true},
		{"all that may be", 0, many, []uint64{10, 20, 30, 50}, true},
		{"fewer than Many", 0, 4, []uint64{10, 20, 30}, true},
		{"just Many", 0, 3, []uint64{10, 20, 30}, true},
		{"just Many, and one that may be behind them", 0, 4, []uint64{10, 20, 30, 50}, true},
		{"more than Many", 0, 2, []uint64{10, 20, 30}, false},
		{"one more than Many, which may be", 0, 3, []uint64{10, 20, 30, 50}, false},
		{"Many 0", 0, 0, nil, true},
		{"Many 0, and one", 0, 0, []uint64{10}, false},
		{"none, where some must be", 0, 1, nil, false},
		{"none, where some must be", 0, many, nil, false},
		{"none from the last one on that must be", 30, 1, nil, false},
		{"none behind it", 31, 1, nil, true},
		{"none behind it", 31, many, nil, true},
		{"the one that may be", 31, 1, []uint64{50}, true},
		{"the one that may be", 50, many, []uint64{50}, true},
		{"none behind all", 51, many, nil, true},
		{"none from the greatest one on", last, many, nil, true},
		{"the first ones", 0, 1, []uint64{10}, true},
		{"the first ones", 0, 2, []uint64{10, 20}, true},
		{"from one on", 10, 2, []uint64{10, 20}, true},
		{"from behind one on", 11, 2, []uint64{20, 30}, true},
		{"from behind one on", 21, 1, []uint64{30}, true},
		{"one ahead of Addr", 11, 3, []uint64{10, 20, 30}, false},
		{"one ahead of Addr, by one", 21, many, []uint64{20, 30}, false},
		{"one ahead of Addr, by far", last, many, []uint64{10}, false},
		{"not rising", 0, many, []uint64{20, 10, 30}, false},
		{"not rising", 0, many, []uint64{10, 30, 20}, false},
		{"not rising", 0, many, []uint64{10, 20, 30, 20}, false},
		{"told twice", 0, many, []uint64{10, 10, 20, 30}, false},
		{"told twice", 0, many, []uint64{10, 20, 30, 30}, false},
		{"told twice, as many as Many", 0, 2, []uint64{10, 10}, false},
		{"one where a clean block may be", 0, many, []uint64{10, 20, 30, 40}, false},
		{"one where a clean block may be", 31, 1, []uint64{40}, false},
		{"one where nothing is", 0, many, []uint64{10, 15, 20, 30}, false},
		{"one where nothing is", 0, many, []uint64{0, 10, 20, 30}, false},
		{"one where nothing is", 0, many, []uint64{10, 20, 30, last}, false},
		{"one left out ahead", 0, many, []uint64{20, 30}, false},
		{"one left out ahead, of just Many", 0, 2, []uint64{20, 30}, false},
		{"one left out ahead, of just Many", 0, 1, []uint64{20}, false},
		{"one left out between", 0, many, []uint64{10, 30}, false},
		{"one left out between, of just Many", 0, 2, []uint64{10, 30}, false},
		{"one left out behind", 0, many, []uint64{10, 20}, false},
		{"one left out behind", 0, 3, []uint64{10, 20}, false},
		{"one left out ahead of one that may be", 0, 3, []uint64{10, 20, 50}, false},
		{"one left out ahead of one that may be", 0, many, []uint64{10, 20, 50}, false},
		{"one left out behind, of just Many", 0, 2, []uint64{10, 20}, true},
		{"two left out behind, of just Many", 0, 1, []uint64{10}, true},
	} {
		m := shelf(t)
		if x.may {
			took(t, m, lists(x.from, x.many), listed(x.addrs...))
		} else {
			wantNot(t, m, lists(x.from, x.many), listed(x.addrs...))
		}
		if t.Failed() {
			t.Fatal(x.what)
		}
	}
}

// P18.3: behind a list: at each address that was told just its dirty blocks may be, at all others of its span none that is dirty, and behind the span all that was.
func TestBehindLists(t *testing.T) {
	// At each of 10, 20, 30 and 40 a dirty block of two may be, or a clean one, or nothing.
	full := func() *ideal.Ideal {
		m := made(t)
		for _, addr := range []uint64{10, 20, 30, 40} {
			took(t, m, fills(addr, 3), done())
			took(t, m, dirties(addr, 1), dark())
			took(t, m, dirties(addr, 2), dark())
		}
		return m
	}
	all := []api.Reply{none(), dirty(1), dirty(2), clean(3)}
	told := []api.Reply{dirty(1), dirty(2)}
	left := []api.Reply{none(), clean(3)}
	for _, x := range []struct {
		from  uint64
		many  int
		addrs []uint64
		// What may be behind it, at 10, 20, 30 and 40.
		may [4][]api.Reply
	}{
		{0, 0, nil, [4][]api.Reply{all, all, all, all}},
		{0, 1, nil, [4][]api.Reply{left, left, left, left}},
		{0, many, nil, [4][]api.Reply{left, left, left, left}},
		{0, 1, []uint64{10}, [4][]api.Reply{told, all, all, all}},
		{0, 1, []uint64{20}, [4][]api.Reply{left, told, all, all}},
		{0, 1, []uint64{30}, [4][]api.Reply{left, left, told, all}},
		{0, 1, []uint64{40}, [4][]api.Reply{left, left, left, told}},
		{0, 2, []uint64{20}, [4][]api.Reply{left, told, left, left}},
		{0, 2, []uint64{10, 30}, [4][]api.Reply{told, left, told, all}},
		{0, 3, []uint64{10, 30}, [4][]api.Reply{told, left, told, left}},
		{0, 4, []uint64{10, 20, 30, 40}, [4][]api.Reply{told, told, told, told}},
		{0, many, []uint64{10, 20, 30, 40}, [4][]api.Reply{told, told, told, told}},
		{10, 1, []uint64{20}, [4][]api.Reply{left, told, all, all}},
		{11, 1, []uint64{20}, [4][]api.Reply{all, told, all, all}},
		{20, 1, []uint64{20}, [4][]api.Reply{all, told, all, all}},
		{20, 2, []uint64{20}, [4][]api.Reply{all, told, left, left}},
		{20, 0, nil, [4][]api.Reply{all, all, all, all}},
		{21, many, nil, [4][]api.Reply{all, all, left, left}},
		{40, many, nil, [4][]api.Reply{all, all, all, left}},
		{40, many, []uint64{40}, [4][]api.Reply{all, all, all, told}},
		{41, many, nil, [4][]api.Reply{all, all, all, all}},
		{last, many, nil, [4][]api.Reply{all, all, all, all}},
	} {
		m := full()
		took(t, m, lists(x.from, x.many), listed(x.addrs...))
		for i, addr := range []uint64{10, 20, 30, 40} {
			want(t, m, addr, x.may[i]...)
		}
		if t.Failed() {
			t.Fatalf("of %+v", x)
		}
	}
}

// P18.3: where just nothing or a dirty block may be, a list tells which; and then Addrs, Dirty and a later list hang on it.
func TestListSettles(t *testing.T) {
	m := made(t)
	for _, addr := range []uint64{0, 5, 10, last} {
		took(t, m, dirties(addr, 1), dark())
	}
	wantDirty(t, m, nil, []uint64{0, 5, 10, last})
	took(t, m, lists(0, 3), listed(5, last))
	wantDirty(t, m, []uint64{5, last}, []uint64{5, last})
	wantAddrs(t, m, 5, last)
	want(t, m, 0, none())
	want(t, m, 5, dirty(1))
	want(t, m, 10, none())
	want(t, m, last, dirty(1))
	wantNot(t, m, lists(0, 3), listed())
	wantNot(t, m, lists(0, 3), listed(5))
	wantNot(t, m, lists(0, 3), listed(0, 5, last))
	took(t, m, lists(0, 3), listed(5, last))
}

// P18.3: a dirty block of several is told by a list as dirty, and stays one of several; a clean one of several is none behind it.
func TestListOfSeveral(t *testing.T) {
	m := made(t)
	took(t, m, dirties(5, 2), done())
	took(t, m, dirties(5, 1), dark())
	wantNot(t, m, lists(0, 1), listed())
	wantNot(t, m, lists(5, many), listed())
	took(t, m, lists(5, 1), listed(5))
	want(t, m, 5, dirty(1), dirty(2))
	took(t, m, cleans(5), dark())
	took(t, m, lists(5, 1), listed(5))
	want(t, m, 5, dirty(1), dirty(2))
	took(t, m, cleans(5), dark())
	took(t, m, lists(5, 1), listed())
	want(t, m, 5, none(), clean(1), clean(2))
}

// P18.3: MaxMany addresses are listed, and all that lie behind them by the next list.
func TestLongLists(t *testing.T) {
	m := made(t)
	var addrs []uint64
	for i := range uint64(many + 1) {
		addrs = append(addrs, i*i)
		took(t, m, dirties(i*i, 1), done())
	}
	took(t, m, lists(0, many), listed(addrs[:many]...))
	wantNot(t, m, lists(0, many), listed(addrs...))
	wantNot(t, m, lists(0, many), listed(addrs[1:]...))
	wantNot(t, m, lists(0, many), listed(addrs[:many-1]...))
	took(t, m, lists(1, many), listed(addrs[1:]...))
	took(t, m, lists(addrs[many], many), listed(addrs[many]))
	took(t, m, lists(addrs[many]+1, many), listed())
}

// P18.4: Can is what Take of a read would be, of each reply, and it changes nothing.
func TestCan(t *testing.T) {
	for _, x := range overs() {
		m := x.made(t)
		was := tellAll(m)
		for _, r := range append(append(sound(), unsound()...), blocks()...) {
			for _, addr := range []uint64{0, 4, 5, 6, last} {
				can := m.Can(addr, r)
				if is := tellAll(m); is != was {
					t.Fatalf("%s: Can(%d, %s) changed %s to %s", x.name, addr, wordOf(r), was, is)
				}
				if took := m.Copy().Take(reads(addr), r); took != can {
					t.Errorf("%s: Can(%d, %s): %t, but Take: %t", x.name, addr, wordOf(r), can, took)
				}
			}
		}
	}
	m := shelf(t)
	for _, x := range []struct {
		addr uint64
		r    api.Reply
		can  bool
	}{{10, dirty(1), true}, {10, clean(1), false}, {10, dirty(2), false}, {10, none(), false}, {10, dark(), true}, {10, refused(api.ErrFail), true}, {10, refused(api.ErrFull), false}, {10, refused(api.ErrInvalid), false}, {10, done(), false}, {10, listed(10), false}, {40, clean(4), true}, {40, none(), true}, {40, dirty(4), false}, {50, dirty(1), true}, {50, none(), true}, {50, clean(1), false}, {60, none(), true}, {60, dirty(1), false}} {
		if m.Can(x.addr, x.r) != x.can {
			t.Errorf("Can(%d, %s): %t", x.addr, wordOf(x.r), !x.can)
		}
	}
}

// P18.4: Dirty tells where nothing but dirty blocks may be, and where one may be; Addrs where a block may be.
func TestDirtyAndAddrs(t *testing.T) {
	for _, x := range overs() {
		m := x.made(t)
		var blocks, dirties int
		for _, r := range x.may {
			if r.Kind == 2 {
				blocks++
			}
			if r.Dirty {
				dirties++
			}
		}
		only := func(is bool) []uint64 {
			if is {
				return []uint64{5}
			}
			return nil
		}
		wantDirty(t, m, only(dirties == len(x.may)), only(dirties > 0))
		wantAddrs(t, m, only(blocks > 0)...)
	}
	m := shelf(t)
	wantDirty(t, m, []uint64{10, 20, 30}, []uint64{10, 20, 30, 50})
	wantAddrs(t, m, 10, 20, 30, 40, 50)
	took(t, m, dirties(50, 2), done())
	took(t, m, cleans(20), dark())
	took(t, m, cleans(10), done())
	took(t, m, reads(40), none())
	wantDirty(t, m, []uint64{30, 50}, []uint64{20, 30, 50})
	wantAddrs(t, m, 10, 20, 30, 50)
}

// P18.4: a copy is of the same size and of the same blocks, and each of the two goes its own way.
func TestCopy(t *testing.T) {
	for _, x := range overs() {
		m := x.made(t)
		was := tellAll(m)
		for _, o := range append(every(5), lists(0, many)) {
			for _, r := range append(append(blocks(), done(), dark(), listed(), listed(5)), sound()...) {
				c := m.Copy()
				if tellAll(c) != was {
					t.Fatalf("%s: the copy: %s, not %s", x.name, tellAll(c), was)
				}
				c.Take(o, r)
				if is := tellAll(m); is != was {
					t.Fatalf("%s: Take(%s; %s) of the copy changed %s to %s", x.name, word(o), wordOf(r), was, is)
				}
				from := x.made(t)
				c = from.Copy()
				from.Take(o, r)
				if is := tellAll(c); is != was {
					t.Fatalf("%s: Take(%s; %s) changed the copy from %s to %s", x.name, word(o), wordOf(r), was, is)
				}
			}
		}
	}
	for _, size := range []int{least, 200, greatest} {
		c := ideal.New(size).Copy()
		for _, n := range []int{size - 1, size, size + 1} {
			if c.May(api.Order{Kind: api.OrderFill, Data: make([]byte, n)}) != (n == size) {
				t.Errorf("the copy of size %d: May of %d bytes: %t", size, n, n != size)
			}
		}
	}
}

// The document's examples.
func TestExamples(t *testing.T) {
	m := made(t)
	took(t, m, reads(5), none())
	// 1. A block is written as dirty, the power goes, it is recovered: it is read, and listed.
	took(t, m, dirties(5, 1), done())
	took(t, m, reads(5), dirty(1))
	took(t, m, lists(0, many), listed(5))
	// 2. A block is written as clean: it is read, or it is gone; never an older one.
	took(t, m, fills(5, 2), done())
	took(t, m, reads(5), clean(2))
	wantNot(t, m, reads(5), dirty(1))
	took(t, m, reads(5), none())
	wantNot(t, m, reads(5), clean(2))
}

// R1: nothing panics, and all ends, whatever it is given.
func TestWhatever(t *testing.T) {
	var orders []api.Order
	for _, kind := range []int{math.MinInt, -1, 0, 1, 2, 3, 4, 5, 6, 7, math.MaxInt} {
		for _, data := range [][]byte{nil, {}, {1}, some(1), make([]byte, 1000)} {
			for _, number := range []int{math.MinInt, -1, 0, 1, many, many + 1, math.MaxInt} {
				orders = append(orders, api.Order{Kind: kind, Addr: last - uint64(number&1), Data: data, Many: number})
			}
		}
	}
	addrs := make([]uint64, 1000)
	replies := append(append(sound(), unsound()...), listed(addrs...), listed(last, 0), api.Reply{Kind: math.MinInt, Addrs: addrs}, api.Reply{Kind: 2, Data: make([]byte, 1000)})
	for _, m := range []*ideal.Ideal{nil, {}, made(t), shelf(t)} {
		for _, o := range orders {
			m.May(o)
			for _, r := range replies {
				m.Take(o, r)
				m.Can(o.Addr, r)
			}
		}
		m.Dirty()
		m.Addrs()
		m.Copy().Take(reads(5), none())
	}
}

// R3: each method of a nil ideal.
func TestNil(t *testing.T) {
	var m *ideal.Ideal
	for _, o := range append(every(5), awry()...) {
		if m.May(o) {
			t.Errorf("May(%s): true", word(o))
		}
		for _, r := range append(append(sound(), unsound()...), blocks()...) {
			if m.Take(o, r) || m.Can(5, r) {
				t.Errorf("Take(%s; %s), or Can: true", word(o), wordOf(r))
			}
		}
	}
	wantDirty(t, m, nil, nil)
	wantAddrs(t, m)
	if m.Copy() != nil {
		t.Error("Copy: one")
	}
}

// R4: what is handed in is not changed, its spare room neither, and not kept.
func TestHandedIn(t *testing.T) {
	for _, kind := range []int{api.OrderDirty, api.OrderFill} {
		for _, r := range []api.Reply{done(), dark()} {
			m := made(t)
			data := append(some(1), 7, 7, 7)
			took(t, m, api.Order{Kind: kind, Addr: 5, Data: data[:least]}, r)
			if !slices.Equal(data, append(some(1), 7, 7, 7)) {
				t.Error("Data was changed")
			}
			was := tellAll(m)
			clear(data)
			if tellAll(m) != was {
				t.Error("Data was kept")
			}
			copy(data, append(some(1), 7, 7, 7))
			took(t, m, reads(5), api.Reply{Kind: 2, Data: data[:least], Dirty: kind == api.OrderDirty})
			if !slices.Equal(data, append(some(1), 7, 7, 7)) {
				t.Error("the Data of a reply was changed")
			}
			was = tellAll(m)
			clear(data)
			if tellAll(m) != was {
				t.Error("the Data of a reply was kept")
			}
		}
	}
	m := shelf(t)
	addrs := []uint64{10, 20, 30, 50, 60, 70}
	took(t, m, lists(0, 9), listed(addrs[:4]...))
	wantNot(t, m, lists(0, 9), listed(addrs[:3]...))
	if !slices.Equal(addrs, []uint64{10, 20, 30, 50, 60, 70}) {
		t.Error("Addrs was changed")
	}
	was := tellAll(m)
	clear(addrs)
	if tellAll(m) != was {
		t.Error("Addrs was kept")
	}
	// One that may not be told is not put in order.
	addrs = []uint64{30, 20, 20, 10}
	wantNot(t, m, lists(0, 9), listed(addrs...))
	if !slices.Equal(addrs, []uint64{30, 20, 20, 10}) {
		t.Error("Addrs that do not rise were changed")
	}
}

// R4: what is answered shares no memory with another answer, nor with what is kept, its spare room neither.
func TestAnswered(t *testing.T) {
	m := shelf(t)
	spoil := func(addrs []uint64) {
		addrs = addrs[:cap(addrs)]
		for i := range addrs {
			addrs[i] = 7
		}
	}
	sure, may := m.Dirty()
	all := m.Addrs()
	spoil(sure)
	if !slices.Equal(may, []uint64{10, 20, 30, 50}) || !slices.Equal(all, []uint64{10, 20, 30, 40, 50}) {
		t.Error("the first list of Dirty shares its memory")
	}
	spoil(may)
	if !slices.Equal(all, []uint64{10, 20, 30, 40, 50}) {
		t.Error("the second list of Dirty shares its memory")
	}
	spoil(all)
	wantDirty(t, m, []uint64{10, 20, 30}, []uint64{10, 20, 30, 50})
	wantAddrs(t, m, 10, 20, 30, 40, 50)
	if tellAll(m) != tellAll(shelf(t)) {
		t.Error("an answer shares its memory with what is kept")
	}
}

// R5: the same calls answer the same, from several goroutines at one time, too.
func TestSame(t *testing.T) {
	play := func() string {
		m, out := ideal.New(least), ""
		for i := range uint64(200) {
			addr := i * 0x9E3779B97F4A7C15
			out += strconv.FormatBool(m.Take(dirties(addr, 1), []api.Reply{done(), dark()}[i%2]))
			if i%3 == 0 {
				out += strconv.FormatBool(m.Take(cleans(addr), dark()))
			}
			if i%20 == 0 {
				sure, may := m.Dirty()
				out += wordOf(listed(sure...)) + wordOf(listed(may...)) + wordOf(listed(m.Addrs()...))
				out += strconv.FormatBool(m.Take(lists(0, many), listed(sure[:min(len(sure), many)]...)))
			}
		}
		return out
	}
	first := play()
	outs := make([]string, 8)
	var all sync.WaitGroup
	for i := range outs {
		all.Go(func() { outs[i] = play() })
	}
	all.Wait()
	for _, out := range outs {
		if out != first {
			t.Error("the same calls answered otherwise")
		}
	}
}

// What goes dark again and again makes what may be there no longer.
func TestManyCrashes(t *testing.T) {
	for _, x := range overs() {
		m := x.made(t)
		for i := range 500 {
			took(t, m, every(5)[i%6], dark())
		}
		want(t, m, 5, append(slices.Clone(x.may), none(), dirty(1), clean(1), clean(max(1, seedOf(x.may))))...)
	}
}

// seedOf answers the greatest seed of blocks.
func seedOf(rs []api.Reply) int {
	seed := 0
	for _, r := range rs {
		if len(r.Data) > 0 {
			seed = max(seed, int(r.Data[len(r.Data)-1]))
		}
	}
	return seed
}

// Whatever there is much of ends within moments: blocks that may be at one address, and addresses.
func TestSize(t *testing.T) {
	m := made(t)
	for i := range 4000 {
		data := some(i % 256)
		data[0], data[1] = byte(i), byte(i>>8)
		took(t, m, api.Order{Kind: 1 + i%2, Addr: 5, Data: data}, dark())
	}
	took(t, m, cleans(5), dark())
	took(t, m, cleans(5), done())
	for i := range 4000 {
		data := some(i % 256)
		data[0], data[1] = byte(i), byte(i>>8)
		if !m.Can(5, api.Reply{Kind: 2, Data: data}) || m.Can(5, api.Reply{Kind: 2, Data: data, Dirty: true}) {
			t.Fatalf("the %d-th of many blocks", i)
		}
	}
	m = made(t)
	var addrs []uint64
	for i := range uint64(10000) {
		addrs = append(addrs, 1+i*3)
		took(t, m, dirties(1+i*3, 1), done())
	}
	for from := uint64(0); ; {
		at, _ := slices.BinarySearch(addrs, from)
		some := addrs[at:min(at+many, len(addrs))]
		took(t, m, lists(from, many), listed(some...))
		if len(some) == 0 {
			break
		}
		from = some[len(some)-1] + 1
	}
	wantDirty(t, m, addrs, addrs)
	wantAddrs(t, m, addrs...)
}

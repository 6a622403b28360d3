package ideal_test

import (
	"slices"
	"sort"
	"strconv"
	"strings"
	"testing"

	"scullery/api"
	"scullery/ideal"
)

// paper is an ideal as the document words it, with nothing shared with the program: at each address the set of what may be there, each as a word: "" of nothing, and of a block "d" or "c", and its data behind it.
type paper map[uint64]map[string]bool

// at answers what may be at an address.
func (p paper) at(addr uint64) map[string]bool {
	if set, is := p[addr]; is {
		return set
	}
	return map[string]bool{"": true}
}

// lawful puts nothing beside each clean block.
func lawful(set map[string]bool) map[string]bool {
	for word := range set {
		if strings.HasPrefix(word, "c") {
			set[""] = true
			break
		}
	}
	return set
}

// washed is a word of a block that is clean, and of nothing what it was.
func washed(word string) string {
	if word == "" {
		return ""
	}
	return "c" + word[1:]
}

// mayOrder is May as the document words it, of blocks of 128 bytes.
func mayOrder(o api.Order) bool {
	isWrite := o.Kind == api.OrderDirty || o.Kind == api.OrderFill
	if o.Kind < 1 || o.Kind > 6 || isWrite != (len(o.Data) == 128) || !isWrite && len(o.Data) > 0 {
		return false
	}
	return o.Many == 0 || o.Kind == api.OrderExists && 0 < o.Many && o.Many <= 64
}

// isPlain tells whether a reply is Plain's of some answer, by that answer.
func isPlain(r api.Reply) bool {
	for kind, a := range []api.Answer{nil, api.Done{}, api.Got{Data: r.Data, Dirty: r.Dirty}, api.Listed{Addrs: r.Addrs}, api.Refused{Code: r.Code}} {
		if kind == r.Kind && kind > 0 {
			return isSame(r, api.Plain(a))
		}
	}
	return false
}

// take is Take as the document words it.
func (p paper) take(o api.Order, r api.Reply) bool {
	switch {
	case !isPlain(r):
		return false
	case !mayOrder(o):
		return r.Kind == 4 && r.Code == api.ErrInvalid
	case r.Kind == 4:
		return p.refuse(o, r.Code)
	}
	was := p.at(o.Addr)
	switch [2]int{o.Kind, r.Kind} {
	case [2]int{api.OrderDirty, 1}, [2]int{api.OrderFill, 1}, [2]int{api.OrderEvict, 1}:
		p[o.Addr] = map[string]bool{becomes(o, ""): true}
	case [2]int{api.OrderClean, 1}:
		set := map[string]bool{}
		for word := range was {
			if word != "" {
				set[washed(word)] = true
			}
		}
		if len(set) == 0 {
			return false
		}
		p[o.Addr] = set
	case [2]int{api.OrderRead, 2}:
		word := "c" + string(r.Data)
		if r.Dirty {
			word = "d" + string(r.Data)
		}
		if !was[word] {
			return false
		}
		p[o.Addr] = map[string]bool{word: true}
	case [2]int{api.OrderExists, 3}:
		return p.list(o, r.Addrs)
	default:
		return false
	}
	lawful(p.at(o.Addr))
	return true
}

// becomes is what an order makes of a word.
func becomes(o api.Order, word string) string {
	switch o.Kind {
	case api.OrderDirty:
		return "d" + string(o.Data)
	case api.OrderFill:
		return "c" + string(o.Data)
	case api.OrderEvict:
		return ""
	case api.OrderClean:
		return washed(word)
	}
	return word
}

// refuse takes a refusal.
func (p paper) refuse(o api.Order, code api.Errno) bool {
	switch {
	case code == api.ErrDark:
		set := map[string]bool{}
		for word := range p.at(o.Addr) {
			set[word] = true
			set[becomes(o, word)] = true
		}
		p[o.Addr] = lawful(set)
		return true
	case code == api.ErrNone && (o.Kind == api.OrderRead || o.Kind == api.OrderClean) && p.at(o.Addr)[""]:
		p[o.Addr] = map[string]bool{"": true}
		return true
	case code == api.ErrFail && o.Kind == api.OrderRead:
		return true
	case code == api.ErrFail, code == api.ErrFull, code == api.ErrWorn:
		return o.Kind != api.OrderRead && o.Kind != api.OrderExists
	}
	return false
}

// dirtied counts the dirty blocks of a set, and tells whether there is something else.
func dirtied(set map[string]bool) (int, bool) {
	n := 0
	for word := range set {
		if strings.HasPrefix(word, "d") {
			n++
		}
	}
	return n, n < len(set)
}

// list takes addresses that are listed.
func (p paper) list(o api.Order, addrs []uint64) bool {
	if len(addrs) > o.Many {
		return false
	}
	for i, addr := range addrs {
		if n, _ := dirtied(p.at(addr)); n == 0 || addr < o.Addr || i > 0 && addrs[i-1] >= addr {
			return false
		}
	}
	var span []uint64
	for addr := range p {
		isBehind := len(addrs) == o.Many && (o.Many == 0 || addr > addrs[len(addrs)-1])
		if addr >= o.Addr && !isBehind {
			span = append(span, addr)
		}
	}
	for _, addr := range span {
		if _, other := dirtied(p[addr]); !other && !slices.Contains(addrs, addr) {
			return false
		}
	}
	for _, addr := range span {
		set := map[string]bool{}
		for word := range p[addr] {
			if strings.HasPrefix(word, "d") == slices.Contains(addrs, addr) {
				set[word] = true
			}
		}
		p[addr] = set
	}
	return true
}

// copied answers another paper of the same.
func (p paper) copied() paper {
	c := paper{}
	for addr, set := range p {
		c[addr] = map[string]bool{}
		for word := range set {
			c[addr][word] = true
		}
	}
	return c
}

// told tells all that is on the paper.
func (p paper) told() string {
	var out []string
	for addr, set := range p {
		for word := range set {
			out = append(out, strconv.FormatUint(addr, 10)+":"+word)
		}
	}
	sort.Strings(out)
	return strings.Join(out, "; ")
}

// wantPaper fails, if an ideal tells something else than the paper, at these addresses, of blocks of these seeds.
func wantPaper(t *testing.T, m *ideal.Ideal, p paper, addrs []uint64, seeds int) {
	t.Helper()
	var sure, may, all []uint64
	for _, addr := range addrs {
		set := p.at(addr)
		n, other := dirtied(set)
		if !other {
			sure = append(sure, addr)
		}
		if n > 0 {
			may = append(may, addr)
		}
		if len(set) > 1 || !set[""] {
			all = append(all, addr)
		}
		if m.Can(addr, none()) != set[""] {
			t.Errorf("Can(%d, none): %t", addr, !set[""])
		}
		for seed := 1; seed <= seeds; seed++ {
			if m.Can(addr, dirty(seed)) != set["d"+string(some(seed))] {
				t.Errorf("Can(%d, dirty %d): %t", addr, seed, !set["d"+string(some(seed))])
			}
			if m.Can(addr, clean(seed)) != set["c"+string(some(seed))] {
				t.Errorf("Can(%d, clean %d): %t", addr, seed, !set["c"+string(some(seed))])
			}
		}
	}
	wantDirty(t, m, sure, may)
	wantAddrs(t, m, all...)
}

// step is an order, and what is told of it.
type step struct {
	o api.Order
	r api.Reply
}

// wantSteps does each step from each paper that steps lead to, and fails, if one tells something else than the paper, or leaves something else behind.
func wantSteps(t *testing.T, steps []step, addrs []uint64, seeds int) int {
	t.Helper()
	type place struct {
		m *ideal.Ideal
		p paper
	}
	places := []place{{made(t), paper{}}}
	seen := map[string]bool{}
	for len(places) > 0 {
		at := places[0]
		places = places[1:]
		// At the addresses of which the paper tells that nothing is there nothing is, as at those of which it tells nothing.
		for _, addr := range addrs {
			at.p[addr] = at.p.at(addr)
		}
		if seen[at.p.told()] {
			continue
		}
		seen[at.p.told()] = true
		for _, s := range steps {
			m, p := at.m.Copy(), at.p.copied()
			is := p.take(s.o, s.r)
			if m.Take(s.o, s.r) != is {
				t.Errorf("Take(%s; %s): %t", word(s.o), wordOf(s.r), !is)
			}
			wantPaper(t, m, p, addrs, seeds)
			if t.Failed() {
				t.Fatalf("behind Take(%s; %s), from %s", word(s.o), wordOf(s.r), tellAll(at.m))
			}
			places = append(places, place{m, p})
		}
	}
	return len(seen)
}

// P18.2, P18.3: all that may be at one address with blocks of two data, and from each of it each order with each reply.
func TestAllOfOneAddress(t *testing.T) {
	for _, addr := range []uint64{0, 5, last} {
		orders := []api.Order{dirties(addr, 1), dirties(addr, 2), fills(addr, 1), fills(addr, 2), reads(addr), evicts(addr), cleans(addr), lists(addr, 0), lists(addr, 1), lists(addr, 2)}
		replies := []api.Reply{done(), dirty(1), dirty(2), dirty(3), clean(1), clean(2), clean(3), listed(), listed(addr), listed(addr, addr), listed(addr + 1), listed(addr - 1)}
		for _, code := range codes() {
			replies = append(replies, refused(code))
		}
		var steps []step
		for _, o := range orders {
			for _, r := range replies {
				steps = append(steps, step{o, r})
			}
		}
		addrs := []uint64{addr - 1, addr, addr + 1}
		slices.Sort(addrs)
		// 16 with nothing, and dirty ones alone: one of two, or both.
		if n := wantSteps(t, steps, addrs, 3); n != 19 {
			t.Errorf("%d states, not 19", n)
		}
	}
}

// P18.3: all that may be at three addresses with blocks of one data, and from each of it each list of up to four addresses.
func TestAllLists(t *testing.T) {
	addrs := []uint64{0, 5, last}
	var steps []step
	for _, addr := range addrs {
		steps = append(steps, step{dirties(addr, 1), done()}, step{dirties(addr, 1), dark()}, step{fills(addr, 1), done()}, step{fills(addr, 1), dark()}, step{evicts(addr), done()}, step{cleans(addr), dark()})
	}
	all := [][]uint64{nil}
	for i := 0; i < len(all); i++ {
		if len(all[i]) == 3 {
			continue
		}
		for _, addr := range []uint64{0, 5, 6, last} {
			all = append(all, append(slices.Clone(all[i]), addr))
		}
	}
	all = append(all, []uint64{0, 5, 6, last}, []uint64{0, 0, 5, last}, []uint64{0, 5, 5, last}, []uint64{0, 5, last, last})
	for _, from := range []uint64{0, 1, 5, 6, last} {
		for number := range 5 {
			for _, l := range all {
				steps = append(steps, step{lists(from, number), listed(l...)})
			}
		}
	}
	// Of each address: nothing, or a clean one, or a dirty one, or each, or a dirty one alone.
	if n := wantSteps(t, steps, addrs, 1); n != 125 {
		t.Errorf("%d states, not 125", n)
	}
}

// Long scripts over few addresses and over many, with replies that are rather such as may be told.
func TestLongScripts(t *testing.T) {
	for _, width := range []int{1, 2, 7, 40} {
		roll := rolls(uint64(width))
		var addrs []uint64
		for i := range width {
			addrs = append(addrs, uint64(i)*(last/40))
		}
		m, p := made(t), paper{}
		taken := 0
		for i := range 4000 {
			s := drawn(roll, p, addrs)
			is := p.take(s.o, s.r)
			if m.Take(s.o, s.r) != is {
				t.Fatalf("%d addresses, step %d: Take(%s; %s): %t", width, i, word(s.o), wordOf(s.r), !is)
			}
			if is {
				taken++
			}
			if roll(50) == 0 {
				m = m.Copy()
			}
			if i%20 == 0 {
				wantPaper(t, m, p, addrs, 3)
			}
		}
		if taken < 1000 || taken > 3900 {
			t.Errorf("%d addresses: %d of 4000 steps were taken", width, taken)
		}
	}
}

// drawn answers a step that is drawn.
func drawn(roll func(int) int, p paper, addrs []uint64) step {
	addr := addrs[roll(len(addrs))]
	seed := 1 + roll(3)
	codes := []api.Errno{api.ErrDark, api.ErrDark, api.ErrFail, api.ErrFull, api.ErrWorn, api.ErrNone, api.ErrNone, api.ErrInvalid}
	o := []api.Order{dirties(addr, seed), fills(addr, seed), reads(addr), evicts(addr), cleans(addr), lists(addr, roll(5)), lists(0, 64)}[roll(7)]
	if roll(4) == 0 {
		return step{o, refused(codes[roll(len(codes))])}
	}
	switch o.Kind {
	case api.OrderRead:
		return step{o, blocks()[roll(7)]}
	case api.OrderExists:
		return step{o, listed(dirtyOf(roll, p, addrs, o)...)}
	}
	return step{o, done()}
}

// dirtyOf answers what a list may tell, or, now and then, one address less.
func dirtyOf(roll func(int) int, p paper, addrs []uint64, o api.Order) []uint64 {
	var out []uint64
	for _, addr := range addrs {
		n, other := dirtied(p.at(addr))
		if addr >= o.Addr && len(out) < o.Many && n > 0 && (!other || roll(2) == 0) {
			out = append(out, addr)
		}
	}
	if len(out) > 0 && roll(6) == 0 {
		k := roll(len(out))
		out = slices.Delete(out, k, k+1)
	}
	return out
}

// rolls answers numbers from 0 to below what is asked for, the same ones for the same seed.
func rolls(seed uint64) func(below int) int {
	n := seed
	return func(below int) int {
		n = n*6364136223846793005 + 1442695040888963407
		return int(n >> 33 % uint64(below))
	}
}

package seg_test

import (
	"bytes"
	"encoding/binary"
	"errors"
	"math"
	"slices"
	"strings"
	"sync"
	"testing"

	"scullery/api"
	"scullery/label"
	"scullery/seg"
)

// filler is what stands in spare room, to see whether somebody writes there.
const filler = 0xEE

// Where a part's things stand.
const atNumber, atMany, atCount, atLength, atName, atEntries, entryBytes = 0, 2, 4, 5, 6, 42, 15

// labels are ones that may be: of 1 to 12 runes, of 1 to 36 bytes.
var labels = []string{"a", "_", "a-1", "Cache_01", "é", "aΣ日", "abcdefghijkl", "ÀÖØÞßàöøÿÀÖØ", "日本", "a日a日a日", "日日日日日日日日日日日日"}

// noLabels may not be.
var noLabels = []string{
	"", "-", "-a", "a-", "-a-", "a b", "a\x00", "\x00", "a.b", "×", "あ", "😀", "\xff", "a\xff", "\xc3", "日\xe6\x97", "\xed\xa0\x80", "\ufffd",
	"abcdefghijklm", "日日日日日日日日日日日日日", "日日日日日日日日日日日日-", "a日日日日日日日日日日日日", "日日日日日日日日日日日é-",
}

// entries are as many as are asked for, up to 256, that may stand together.
func entries(many int) []api.Entry {
	var out []api.Entry
	for i := range many {
		out = append(out, api.Entry{Addr: uint64(i*i + 3*i), Page: (7*i + 200) % 256, Dirty: i%3 == 0, Seq: 1 + i*i*i*65521})
	}
	return out
}

// greatest are as many as are asked for, up to 256: all that they tell is as great as it may be, or near.
func greatest(many int) []api.Entry {
	var out []api.Entry
	for i := range many {
		out = append(out, api.Entry{Addr: math.MaxUint64 - uint64(many-1-i), Page: 255 - i, Dirty: i%2 == 0, Seq: api.MaxSeq - i})
	}
	return out
}

// eachOf is how many entries a part of a size has, as the document words it.
func eachOf(size int) int {
	if size < 128 || size > 256 {
		return 0
	}
	return (size - 42) / 15
}

// byHand lays a part as the document words it, whether it may be or not, behind a count that need not be its entries'; without zeros behind them.
func byHand(number, many, count int, name string, es ...api.Entry) []byte {
	out := binary.BigEndian.AppendUint16(nil, uint16(number))
	out = binary.BigEndian.AppendUint16(out, uint16(many))
	out = append(out, byte(count), byte(len(name)))
	out = append(out, name...)
	out = padded(out, max(atEntries, len(out)))
	for _, e := range es {
		out = binary.BigEndian.AppendUint64(out, e.Addr)
		seq := binary.BigEndian.AppendUint64(nil, uint64(e.Seq))
		out = append(out, seq[3:]...)
		page := uint16(e.Page)
		if e.Dirty {
			page |= 0x8000
		}
		out = binary.BigEndian.AppendUint16(out, page)
	}
	return out
}

// aPart is a part of a size, by hand.
func aPart(size, number, many int, name string, es ...api.Entry) []byte {
	return padded(byHand(number, many, len(es), name, es...), size)
}

// allParts are all parts of a checkpoint, by hand.
func allParts(size int, name string, es ...api.Entry) [][]byte {
	var chunks [][]api.Entry
	for chunk := range slices.Chunk(es, eachOf(size)) {
		chunks = append(chunks, chunk)
	}
	if len(chunks) == 0 {
		chunks = append(chunks, nil)
	}
	var out [][]byte
	for i, chunk := range chunks {
		out = append(out, aPart(size, i, len(chunks), name, chunk...))
	}
	return out
}

// isPart tells whether bytes are a part, in the document's words, one behind the other.
func isPart(b []byte) bool {
	each := eachOf(len(b))
	if each == 0 {
		return false
	}
	number, many := int(b[0])<<8|int(b[1]), int(b[2])<<8|int(b[3])
	count, length := int(b[atCount]), int(b[atLength])
	if number >= many || count > each || length > 36 || number < many-1 && count != each || number == many-1 && number > 0 && count == 0 {
		return false
	}
	if !label.May(string(b[atName:atName+length])) || !isZeros(b[atName+length:atEntries]) || !isZeros(b[atEntries+count*entryBytes:]) {
		return false
	}
	had, last := map[byte]int{}, uint64(0)
	for i := range count {
		e := b[atEntries+i*entryBytes:][:entryBytes]
		addr := binary.BigEndian.Uint64(e)
		if i > 0 && addr <= last || isZeros(e[8:13]) || e[13]&0x7F != 0 || had[e[14]] > 0 {
			return false
		}
		last, had[e[14]] = addr, 1
	}
	return true
}

// isZeros tells whether bytes are all 0.
func isZeros(b []byte) bool {
	return len(bytes.TrimLeft(b, "\x00")) == 0
}

// padded answers bytes with zeros behind, up to the size.
func padded(b []byte, size int) []byte {
	return slices.Concat(b, make([]byte, size-len(b)))
}

// turned answers a copy of a part, with other bytes from a place on.
func turned(b []byte, at int, by ...byte) []byte {
	out := bytes.Clone(b)
	copy(out[at:], by)
	return out
}

// isWrong tells whether an error is one of the layers' own, not wrapped, of that code.
func isWrong(e error, code api.Errno) bool {
	wrong, ok := e.(*api.Wrong)
	return ok && wrong != nil && wrong.Code == code && errors.Unwrap(e) == nil
}

// cut answers the parts of entries that may be.
func cut(t *testing.T, size int, name string, es ...api.Entry) [][]byte {
	t.Helper()
	bs, e := seg.Cut(size, name, es...)
	if e != nil {
		t.Fatalf("Cut(%d, %q) of %d: %v", size, name, len(es), e)
	}
	return bs
}

// wantParts fails, if Cut does not lay just these parts, Number does not tell them, or Join does not join them.
func wantParts(t *testing.T, bs [][]byte, name string, es ...api.Entry) {
	t.Helper()
	size := len(bs[0])
	if got, e := seg.Cut(size, name, es...); e != nil || !slices.EqualFunc(got, bs, bytes.Equal) {
		t.Errorf("Cut(%d, %q) of %d: % x, %v, not % x", size, name, len(es), got, e, bs)
	}
	if got := seg.Parts(size, len(es)); got != len(bs) {
		t.Errorf("Parts(%d, %d): %d, not %d", size, len(es), got, len(bs))
	}
	for i, b := range bs {
		wantNumber(t, b, i, len(bs))
	}
	wantJoin(t, bs, name, es...)
}

// wantJoin fails, if Join does not join these.
func wantJoin(t *testing.T, bs [][]byte, name string, es ...api.Entry) {
	t.Helper()
	if s, got, e := seg.Join(bs...); e != nil || s != name || !slices.Equal(got, es) {
		t.Errorf("Join of %d parts: %q, %+v, %v, not %q, %+v", len(bs), s, got, e, name, es)
	}
}

// wantNoParts fails, if Cut answers parts, or another error.
func wantNoParts(t *testing.T, size int, name string, es ...api.Entry) {
	t.Helper()
	if bs, e := seg.Cut(size, name, es...); bs != nil || !isWrong(e, api.ErrInvalid) {
		t.Errorf("Cut(%d, %q) of %d: % x, %v", size, name, len(es), bs, e)
	}
}

// wantNumber fails, if Number does not tell this of a part.
func wantNumber(t *testing.T, b []byte, number, many int) {
	t.Helper()
	if got, all, e := seg.Number(b); got != number || all != many || e != nil {
		t.Errorf("Number(% x): %d, %d, %v, not %d, %d", b, got, all, e, number, many)
	}
}

// wantNoNumber fails, if Number tells anything of bytes that are no part, or Join joins them.
func wantNoNumber(t *testing.T, b []byte, what string) {
	t.Helper()
	if got, all, e := seg.Number(b); got != 0 || all != 0 || !isWrong(e, api.ErrForm) {
		t.Errorf("%s: Number(% x): %d, %d, %v", what, b, got, all, e)
	}
	wantNoJoin(t, what, b)
}

// wantNoJoin fails, if Join joins what is no checkpoint, or answers another error.
func wantNoJoin(t *testing.T, what string, bs ...[]byte) {
	t.Helper()
	if s, es, e := seg.Join(bs...); s != "" || es != nil || !isWrong(e, api.ErrForm) {
		t.Errorf("%s: Join of %d: %q, %+v, %v", what, len(bs), s, es, e)
	}
}

// wantAsWorded fails, if Number does not answer just what the document's words say of any bytes, or Join of them alone does not.
func wantAsWorded(t *testing.T, b []byte) {
	t.Helper()
	if !isPart(b) {
		wantNoNumber(t, b, "no part")
		return
	}
	number, many := int(b[0])<<8|int(b[1]), int(b[2])<<8|int(b[3])
	wantNumber(t, b, number, many)
	if many > 1 {
		wantNoJoin(t, "a part of several", b)
		return
	}
	wantJoinedAgain(t, b)
}

// wantJoinedAgain fails, if Join answers what Cut does not lay as just these parts.
func wantJoinedAgain(t *testing.T, bs ...[]byte) {
	t.Helper()
	s, es, e := seg.Join(bs...)
	if e != nil {
		wantNoJoin(t, "refused", bs...)
		return
	}
	if again, e := seg.Cut(len(bs[0]), s, es...); e != nil || !slices.EqualFunc(again, bs, bytes.Equal) {
		t.Errorf("Join(% x): %q, %+v, laid as % x, %v", bs, s, es, again, e)
	}
}

// lentEntries answers entries with spare room behind them, and a check that neither is changed.
func lentEntries(t *testing.T, es []api.Entry, room int) ([]api.Entry, func()) {
	t.Helper()
	whole := slices.Clone(es)
	for range room {
		whole = append(whole, api.Entry{Addr: filler, Page: filler, Dirty: true, Seq: filler})
	}
	before := slices.Clone(whole)
	return whole[:len(es):len(whole)], func() {
		t.Helper()
		if !slices.Equal(whole, before) {
			t.Errorf("R4: %+v, not %+v", whole, before)
		}
	}
}

// lentParts answers parts with spare room behind each and behind all, and a check that none of it is changed.
func lentParts(t *testing.T, bs [][]byte, room int) ([][]byte, func()) {
	t.Helper()
	var whole, before [][]byte
	for _, b := range bs {
		whole = append(whole, slices.Concat(b, bytes.Repeat([]byte{filler}, room)))
	}
	for range room {
		whole = append(whole, []byte{filler})
	}
	lent := make([][]byte, len(whole))
	for i := range whole {
		before = append(before, bytes.Clone(whole[i]))
		lent[i] = whole[i]
		if i < len(bs) {
			lent[i] = whole[i][:len(bs[i])]
		}
	}
	return lent[:len(bs):len(lent)], func() {
		t.Helper()
		for i := range whole {
			if !bytes.Equal(whole[i], before[i]) || &lent[i][0] != &whole[i][0] {
				t.Errorf("R4: the %d-th: % x, not % x", i, whole[i], before[i])
			}
		}
	}
}

// scribble changes all bytes that were answered, the spare room too.
func scribble(b []byte) {
	all := b[:cap(b)]
	for i := range all {
		all[i] ^= 0x55
	}
}

// scribbleEntries changes all entries that were answered, the spare room too.
func scribbleEntries(es []api.Entry) {
	all := es[:cap(es)]
	for i := range all {
		all[i] = api.Entry{Addr: filler, Page: filler, Dirty: !all[i].Dirty, Seq: filler}
	}
}

// wantMay fails, if May and Cut do not both say this of entries.
func wantMay(t *testing.T, want bool, what string, es ...api.Entry) {
	t.Helper()
	if seg.May(es...) != want {
		t.Errorf("%s: May of %d: not %v", what, len(es), want)
	}
	if !want {
		wantNoParts(t, 128, "a", es...)
		wantNoParts(t, 256, "日本", es...)
		return
	}
	wantJoin(t, cut(t, 200, "a", es...), "a", es...)
}

// P6.1: as many entries as there are pages, and not one more.
func TestMayByNumber(t *testing.T) {
	if !seg.May() || !seg.May(nil...) || !seg.May([]api.Entry{}...) {
		t.Error("May of none")
	}
	for _, kind := range []func(int) []api.Entry{entries, greatest} {
		for many := range 257 {
			wantMay(t, true, "entries", kind(many)...)
		}
		for page := range 256 {
			more := api.Entry{Addr: math.MaxUint64, Page: page, Seq: 1}
			wantMay(t, false, "one too many", append(entries(256), more)...)
		}
		wantMay(t, false, "one too many, of a page too many", append(entries(256), api.Entry{Addr: math.MaxUint64, Page: 256, Seq: 1})...)
	}
}

// P6.1: Addrs rise: alike ones and falling ones may not be, wherever they stand.
func TestMayByAddrs(t *testing.T) {
	pair := func(a, b uint64) []api.Entry {
		return []api.Entry{{Addr: a, Page: 3, Seq: 9}, {Addr: b, Page: 2, Seq: 8}}
	}
	for _, x := range []struct {
		a, b uint64
		want bool
	}{
		{0, 1, true}, {1, 2, true}, {0, math.MaxUint64, true}, {math.MaxUint64 - 1, math.MaxUint64, true}, {math.MaxInt64, 1 << 63, true}, {255, 256, true},
		{0, 0, false}, {5, 5, false}, {math.MaxUint64, math.MaxUint64, false},
		{1, 0, false}, {6, 5, false}, {math.MaxUint64, 0, false}, {1 << 63, math.MaxInt64, false}, {256, 255, false},
	} {
		wantMay(t, x.want, "a pair", pair(x.a, x.b)...)
	}
	for _, many := range []int{2, 3, 30, 256} {
		for i := 1; i < many; i++ {
			es := entries(many)
			es[i].Addr = es[i-1].Addr
			wantMay(t, false, "alike", es...)
			es = entries(many)
			es[i-1].Addr = es[i].Addr + 1
			wantMay(t, false, "falling", es...)
		}
	}
	steps := entries(256)
	for i := range steps {
		steps[i].Addr = uint64(i)
	}
	wantMay(t, true, "by one", steps...)
	slices.Reverse(steps)
	wantMay(t, false, "backwards", steps...)
}

// P6.1: Pages from 0 to 255, no two alike, next to each other and far apart.
func TestMayByPages(t *testing.T) {
	for page := -300; page < 600; page++ {
		for _, dirty := range []bool{false, true} {
			wantMay(t, page >= 0 && page <= 255, "one page", api.Entry{Addr: 7, Page: page, Dirty: dirty, Seq: 3})
		}
	}
	for _, page := range []int{math.MinInt, -1 << 32, -1 << 16, -1 << 15, 1 << 15, 1<<15 + 5, 1 << 16, 1<<16 + 5, 1 << 32, math.MaxInt} {
		wantMay(t, false, "one page", api.Entry{Page: page, Seq: 3})
		for _, where := range []int{0, 7, 29} {
			es := entries(30)
			es[where].Page = page
			wantMay(t, false, "one of 30", es...)
		}
	}
	for _, many := range []int{2, 3, 40} {
		for i := range many {
			for j := range i {
				es := entries(many)
				es[i].Page = es[j].Page
				es[i].Dirty = !es[j].Dirty
				wantMay(t, false, "alike", es...)
			}
		}
	}
	es := entries(256)
	es[255].Page = es[0].Page
	wantMay(t, false, "the first and the last", es...)
}

// P6.1: Seq from 1 to MaxSeq.
func TestMayBySeqs(t *testing.T) {
	for _, seq := range []int{1, 2, 255, 256, 1 << 32, 1<<40 - 2, 1<<40 - 1} {
		wantMay(t, true, "a Seq", api.Entry{Seq: seq})
	}
	for _, seq := range []int{math.MinInt, -1 << 40, -1, 0, 1 << 40, 1<<40 + 1, 1 << 41, math.MaxInt} {
		wantMay(t, false, "a Seq", api.Entry{Seq: seq})
		for _, where := range []int{0, 7, 29} {
			es := entries(30)
			es[where].Seq = seq
			wantMay(t, false, "one of 30", es...)
		}
	}
	// Seqs may be alike.
	wantMay(t, true, "alike", api.Entry{Seq: 5}, api.Entry{Addr: 1, Page: 1, Seq: 5})
}

// P6.1: the document's example, and each size.
func TestEach(t *testing.T) {
	for _, x := range []struct{ size, want int }{
		{128, 5}, {131, 5}, {132, 6}, {142, 6}, {143, 6}, {146, 6}, {147, 7}, {200, 10}, {206, 10}, {207, 11}, {251, 13}, {252, 14}, {256, 14},
		{math.MinInt, 0}, {-128, 0}, {-1, 0}, {0, 0}, {1, 0}, {42, 0}, {57, 0}, {127, 0}, {257, 0}, {1 << 32, 0}, {1<<32 + 128, 0}, {math.MaxInt, 0},
	} {
		if got := seg.Each(x.size); got != x.want {
			t.Errorf("Each(%d): %d, not %d", x.size, got, x.want)
		}
	}
	for size := -600; size <= 1200; size++ {
		if got := seg.Each(size); got != eachOf(size) {
			t.Errorf("Each(%d): %d", size, got)
		}
	}
}

// P6.1: how many parts, by going through them.
func TestParts(t *testing.T) {
	for size := 128; size <= 256; size++ {
		each := seg.Each(size)
		for many := range 600 {
			want, room := 1, each
			for room < many {
				want, room = want+1, room+each
			}
			if got := seg.Parts(size, many); got != want {
				t.Errorf("Parts(%d, %d): %d, not %d", size, many, got, want)
			}
		}
		for _, many := range []int{math.MinInt, -1 << 32, -256, -each - 1, -each, 1 - each, -2, -1} {
			if got := seg.Parts(size, many); got != 0 {
				t.Errorf("Parts(%d, %d): %d", size, many, got)
			}
		}
	}
	for _, size := range []int{math.MinInt, -128, -1, 0, 1, 41, 42, 57, 100, 127, 257, 300, 1<<32 + 128, math.MaxInt} {
		for _, many := range []int{math.MinInt, -1, 0, 1, 5, 256, math.MaxInt} {
			if got := seg.Parts(size, many); got != 0 {
				t.Errorf("Parts(%d, %d): %d", size, many, got)
			}
		}
	}
}

// P6.1: as many entries as a number tells at most.
func TestPartsOfTheGreatestNumbers(t *testing.T) {
	for _, x := range []struct{ size, many int }{
		{128, math.MaxInt}, {128, math.MaxInt - 1}, {128, math.MaxInt - 2}, {132, math.MaxInt}, {256, math.MaxInt}, {256, math.MaxInt - 6}, {256, math.MaxInt - 7},
		{128, 1 << 40}, {128, 5 << 32}, {128, 5<<32 + 1}, {128, 5<<32 - 1},
	} {
		want := x.many / eachOf(x.size)
		if want*eachOf(x.size) < x.many {
			want++
		}
		if got := seg.Parts(x.size, x.many); got != want {
			t.Errorf("Parts(%d, %d): %d, not %d", x.size, x.many, got, want)
		}
	}
}

// P6.1: known bytes, each at its place.
func TestKnown(t *testing.T) {
	ahead := slices.Concat([]byte{0, 0, 0, 1, 0, 1, 'a'}, make([]byte, 35))
	wantParts(t, [][]byte{padded(ahead, 128)}, "a")
	wantParts(t, [][]byte{padded(ahead, 256)}, "a")

	ahead = slices.Concat([]byte{0, 0, 0, 1, 2, 8, 0xE6, 0x97, 0xA5, 'b', '-', 0xC3, 0x89, '1'}, make([]byte, 28))
	two := []byte{
		1, 2, 3, 4, 5, 6, 7, 8, 0x11, 0x12, 0x13, 0x14, 0x15, 0x80, 5,
		255, 255, 255, 255, 255, 255, 255, 255, 255, 255, 255, 255, 255, 0, 255,
	}
	wantParts(t, [][]byte{padded(slices.Concat(ahead, two), 128)}, "日b-É1",
		api.Entry{Addr: 0x0102030405060708, Page: 5, Dirty: true, Seq: 0x1112131415},
		api.Entry{Addr: math.MaxUint64, Page: 255, Seq: api.MaxSeq})

	six := func(i int) api.Entry { return api.Entry{Addr: uint64(i), Page: 10 * i, Seq: 1 + i} }
	bytesOf := func(i byte) []byte { return []byte{0, 0, 0, 0, 0, 0, 0, i, 0, 0, 0, 0, 1 + i, 0, 10 * i} }
	wantParts(t, [][]byte{
		padded(slices.Concat([]byte{0, 0, 0, 2, 5, 2, 'x', 'y'}, make([]byte, 34), bytesOf(0), bytesOf(1), bytesOf(2), bytesOf(3), bytesOf(4)), 128),
		padded(slices.Concat([]byte{0, 1, 0, 2, 1, 2, 'x', 'y'}, make([]byte, 34), bytesOf(5)), 128),
	}, "xy", six(0), six(1), six(2), six(3), six(4), six(5))
}

// P6.1: each size, each number of entries: as many as one part has, one less, one more, and all that there may be.
func TestCutOfEachSize(t *testing.T) {
	for size := 128; size <= 256; size++ {
		name := labels[size%len(labels)]
		each := seg.Each(size)
		for _, many := range []int{0, 1, each - 1, each, each + 1, 2*each - 1, 2 * each, 2*each + 1, 7 * each, 7*each + 1, 64, 255, 256} {
			wantParts(t, allParts(size, name, entries(many)...), name, entries(many)...)
			wantParts(t, allParts(size, name, greatest(many)...), name, greatest(many)...)
		}
	}
	for many := range 257 {
		wantParts(t, allParts(128, "a-1", entries(many)...), "a-1", entries(many)...)
		wantParts(t, allParts(256, "日本", greatest(many)...), "日本", greatest(many)...)
	}
	if got := len(cut(t, 128, "a", entries(256)...)); got != 52 {
		t.Errorf("Cut of 256: %d parts", got)
	}
}

// P6.1: labels of each number of bytes up to 36.
func TestCutOfLabels(t *testing.T) {
	for _, name := range labels {
		wantParts(t, allParts(128, name), name)
		wantParts(t, allParts(135, name, entries(12)...), name, entries(12)...)
	}
	for most := range 13 {
		for _, one := range []string{"a", "é", "日"} {
			if most > 0 {
				name := strings.Repeat(one, most)
				wantParts(t, allParts(128, name, entries(7)...), name, entries(7)...)
			}
		}
	}
}

// P6.1: of a label that may not be, a size, or entries, nothing is cut.
func TestCutOfWhatMayNotBe(t *testing.T) {
	for _, name := range noLabels {
		wantNoParts(t, 128, name)
		wantNoParts(t, 256, name, entries(20)...)
	}
	for size := -200; size <= 600; size++ {
		if size < 128 || size > 256 {
			wantNoParts(t, size, "a")
			wantNoParts(t, size, "a", entries(20)...)
		}
	}
	for _, size := range []int{math.MinInt, -1 << 32, 1<<32 + 128, math.MaxInt} {
		wantNoParts(t, size, "a", entries(3)...)
		wantNoParts(t, size, "", api.Entry{})
	}
	for where := range 30 {
		es := entries(30)
		es[where].Seq = 0
		wantNoParts(t, 128, "a", es...)
	}
	wantNoParts(t, 128, "a", make([]api.Entry, 1000)...)
}

// P6.1: bytes of a length that no part has are none, though all else is well.
func TestNumberOfWrongSizes(t *testing.T) {
	wantNoNumber(t, nil, "nil")
	wantNoNumber(t, []byte{}, "empty")
	wantNoNumber(t, make([]byte, 0, 200), "empty, and room")
	for size := range 700 {
		wantNoNumber(t, make([]byte, size), "zeros")
		wantNoNumber(t, bytes.Repeat([]byte{255}, size), "bytes 255")
		if size >= 42 && (size < 128 || size > 256) {
			wantNoNumber(t, aPart(size, 0, 1, "a"), "a wrong size")
		}
		if size > 256 {
			wantNoNumber(t, aPart(size, 0, 1, "a", entries((size-42)/15)...), "a wrong size, filled")
			wantNoNumber(t, aPart(size, 0, 1, "a", entries(14)...), "a wrong size")
		}
		if size >= 128 && size <= 256 {
			wantNumber(t, aPart(size, 0, 1, "a"), 0, 1)
		}
	}
}

// P6.1: a number is below how many there are.
func TestNumberOfEachNumber(t *testing.T) {
	full, some := entries(5), entries(2)
	for many := range 40 {
		for number := range 40 {
			wantAsWorded(t, aPart(128, number, many, "a", full...))
			wantAsWorded(t, aPart(128, number, many, "a", some...))
			wantAsWorded(t, aPart(128, number, many, "a"))
			if number >= many {
				wantNoNumber(t, aPart(128, number, many, "a", full...), "not below")
			}
		}
	}
	for _, x := range []struct{ number, many int }{{255, 256}, {256, 257}, {0, 65535}, {65533, 65535}, {65534, 65535}, {256, 65535}, {51, 52}, {52, 53}} {
		// That all parts together might have too many entries is not looked at.
		wantNumber(t, aPart(128, x.number, x.many, "a", greatest(5)...), x.number, x.many)
		wantNumber(t, aPart(128, x.number, x.many, "a", entries(5)...), x.number, x.many)
	}
	for _, x := range []struct{ number, many int }{{0, 0}, {1, 1}, {65535, 0}, {65535, 65535}, {256, 1}, {256, 255}, {1, 0}} {
		wantNoNumber(t, aPart(128, x.number, x.many, "a", full...), "not below")
	}
}

// P6.1: one that is not the last one has Each; the last one has some, if it is not the first, too.
func TestNumberOfEachCount(t *testing.T) {
	for size := 128; size <= 256; size++ {
		each := seg.Each(size)
		for count := range each + 1 {
			es := greatest(count)
			wantNumber(t, aPart(size, 0, 1, "a", es...), 0, 1)
			if count < each {
				wantNoNumber(t, aPart(size, 0, 2, "a", es...), "fewer, the first one")
				wantNoNumber(t, aPart(size, 3, 7, "a", es...), "fewer, in the middle")
			} else {
				wantNumber(t, aPart(size, 0, 2, "a", es...), 0, 2)
				wantNumber(t, aPart(size, 3, 7, "a", es...), 3, 7)
			}
			if count == 0 {
				wantNoNumber(t, aPart(size, 1, 2, "a", es...), "none, the last one")
			} else {
				wantNumber(t, aPart(size, 1, 2, "a", es...), 1, 2)
			}
		}
	}
}

// P6.1: a count that is not the entries', and one that has no room.
func TestNumberOfWrongCounts(t *testing.T) {
	for _, size := range []int{128, 131, 132, 200, 255, 256} {
		each := seg.Each(size)
		for have := range each + 1 {
			for count := range 256 {
				b := padded(byHand(0, 1, count, "a", entries(have)...), size)
				if count != have {
					wantNoNumber(t, b, "a wrong count")
				}
				wantAsWorded(t, b)
			}
		}
		// Nothing behind the entries tells that there is one more: it has no room.
		whole := byHand(0, 1, each+1, "a", entries(each+1)...)
		wantNoNumber(t, whole[:size], "more than Each")
	}
}

// P6.1: entries that may not be make a part none, wherever they stand.
func TestNumberOfEntriesThatMayNotBe(t *testing.T) {
	for i, turn := range []func(es []api.Entry, at int){
		func(es []api.Entry, at int) { es[at].Seq = 0 },
		func(es []api.Entry, at int) { es[at].Page = 256 },
		func(es []api.Entry, at int) { es[at].Page = 0x100 | es[at].Page },
		func(es []api.Entry, at int) { es[at].Page = 0x4000 },
		func(es []api.Entry, at int) { es[at].Page = 0x7FFF },
		func(es []api.Entry, at int) { es[at].Page = es[(at+1)%len(es)].Page },
		func(es []api.Entry, at int) { es[at].Page = es[(at+3)%len(es)].Page },
		func(es []api.Entry, at int) { es[max(1, at)].Addr = es[max(1, at)-1].Addr },
		func(es []api.Entry, at int) { es[max(1, at)-1].Addr = es[max(1, at)].Addr + 1 },
	} {
		for at := range 5 {
			for _, dirty := range []bool{false, true} {
				es := entries(5)
				turn(es, at)
				es[at].Dirty = dirty
				for _, x := range []struct{ size, number, many int }{{128, 0, 1}, {128, 0, 2}, {128, 2, 3}, {200, 0, 1}, {256, 1, 2}} {
					b := aPart(x.size, x.number, x.many, "a", es...)
					wantNoNumber(t, b, "the "+label.Hex(uint64(i))+"-th")
				}
			}
		}
	}
}

// P6.1: a label that may not be, is too long, or is shorter or longer than the bytes say.
func TestNumberOfLabels(t *testing.T) {
	for _, name := range labels {
		for length := range 256 {
			b := turned(aPart(128, 0, 1, name, entries(3)...), atLength, byte(length))
			if length != len(name) {
				wantNoNumber(t, b, "a wrong length")
			}
			wantAsWorded(t, b)
		}
	}
	for _, name := range noLabels {
		if len(name) <= 36 {
			wantNoNumber(t, aPart(128, 0, 1, name, entries(3)...), "a label that may not be")
			wantNoNumber(t, aPart(128, 0, 1, name), "a label that may not be")
		}
	}
	for length := 13; length < 80; length++ {
		b := slices.Concat([]byte{0, 0, 0, 1, 0, byte(length)}, bytes.Repeat([]byte{'a'}, length))
		wantNoNumber(t, padded(b, 128), "a label that is too long")
	}
}

// P6.1: something other than zeros behind the label, or behind the entries.
func TestNumberOfBytesBehind(t *testing.T) {
	for _, name := range labels {
		for _, many := range []int{0, 1, 4, 5, 10} {
			b := aPart(200, 0, 1, name, entries(many)...)
			wantNumber(t, b, 0, 1)
			for at := atName + len(name); at < len(b); at++ {
				if at == atEntries {
					at += many * entryBytes
				}
				for _, one := range []byte{1, 'a', 128, 255} {
					wantNoNumber(t, turned(b, at, one), "a byte behind")
				}
			}
		}
	}
}

// P6.1: a part with any one byte another one is just what the document's words say of it.
func TestNumberOfAnotherByte(t *testing.T) {
	for _, bs := range [][][]byte{allParts(128, "ab", entries(8)...), allParts(150, "日本", greatest(14)...), allParts(130, "a日É"), allParts(128, "a", entries(5)...)} {
		for _, b := range bs {
			for at := range b {
				for by := 1; by < 256; by++ {
					wantAsWorded(t, turned(b, at, b[at]^byte(by)))
				}
			}
		}
	}
}

// P6.1: all parts with any one byte another one are joined only to what Cut lays as just these.
func TestJoinOfAnotherByte(t *testing.T) {
	for _, bs := range [][][]byte{allParts(128, "ab", entries(12)...), allParts(150, "日本", greatest(14)...), allParts(131, "a-1", entries(10)...)} {
		for which, b := range bs {
			for at := range b {
				for by := 1; by < 256; by++ {
					odd := slices.Clone(bs)
					odd[which] = turned(b, at, b[at]^byte(by))
					wantJoinedAgain(t, odd...)
					if at < atEntries {
						wantNoJoin(t, "ahead of the entries", odd...)
					}
				}
			}
		}
	}
}

// P6.1: parts with a byte less or more are none.
func TestNumberOfPartsMovedOn(t *testing.T) {
	for size := 128; size <= 256; size++ {
		b := aPart(size, 0, 1, "ab", entries(seg.Each(size))...)
		wantAsWorded(t, b[:size-1])
		wantAsWorded(t, b[1:])
		wantAsWorded(t, slices.Concat([]byte{0}, b))
		wantNoNumber(t, slices.Concat(b, []byte{1}), "one byte more")
	}
}

// P6.1: of nothing nothing is joined.
func TestJoinOfNothing(t *testing.T) {
	wantNoJoin(t, "none")
	wantNoJoin(t, "nil", [][]byte(nil)...)
	wantNoJoin(t, "one that is nil", nil)
	wantNoJoin(t, "many that are nil", make([][]byte, 100)...)
}

// P6.1: parts that lack one, that have one twice, or stand in another order.
func TestJoinOfOtherParts(t *testing.T) {
	for _, many := range []int{6, 10, 11, 30, 256} {
		bs := allParts(128, "ab", entries(many)...)
		wantJoin(t, bs, "ab", entries(many)...)
		for i := range bs {
			wantNoJoin(t, "one is missing", slices.Delete(slices.Clone(bs), i, i+1)...)
			wantNoJoin(t, "one stands alone", bs[i])
			for j := range bs {
				wantNoJoin(t, "one is there twice", slices.Insert(slices.Clone(bs), j, bs[i])...)
				if i != j {
					odd := slices.Clone(bs)
					odd[i], odd[j] = odd[j], odd[i]
					wantNoJoin(t, "another order", odd...)
					odd[j] = bs[j]
					wantNoJoin(t, "one instead of another", odd...)
				}
			}
			odd := slices.Clone(bs)
			odd[i] = nil
			wantNoJoin(t, "one is nil", odd...)
		}
		wantNoJoin(t, "none behind", append(slices.Clone(bs), nil)...)
		wantNoJoin(t, "all twice", slices.Concat(bs, bs)...)
		slices.Reverse(bs)
		wantNoJoin(t, "backwards", bs...)
	}
	// The entries rise, but the numbers are not theirs.
	es := entries(10)
	wantNoJoin(t, "numbers", aPart(128, 1, 3, "a", es[:5]...), aPart(128, 0, 3, "a", es[5:]...), aPart(128, 2, 3, "a", greatest(1)...))
	wantNoJoin(t, "numbers from 1 on", aPart(128, 1, 3, "a", es[:5]...), aPart(128, 2, 3, "a", es[5:]...))
	// Each is a part, but not of as many.
	wantNoJoin(t, "fewer", aPart(128, 0, 3, "a", es[:5]...), aPart(128, 1, 3, "a", es[5:]...))
	wantNoJoin(t, "more", aPart(128, 0, 2, "a", es[:5]...), aPart(128, 1, 3, "a", es[5:]...))
	wantNoJoin(t, "more at first", aPart(128, 0, 3, "a", es[:5]...), aPart(128, 1, 2, "a", es[5:]...))
}

// P6.1: parts of two labels, or of two sizes.
func TestJoinOfTwo(t *testing.T) {
	for _, many := range []int{6, 15, 30} {
		bs := allParts(128, "ab", entries(many)...)
		for _, name := range []string{"a", "ac", "abc", "AB", "日本"} {
			others := allParts(128, name, entries(many)...)
			for i := range bs {
				odd := slices.Clone(bs)
				odd[i] = others[i]
				wantNoJoin(t, "two labels", odd...)
			}
		}
		for size := 129; size <= 131; size++ {
			others := allParts(size, "ab", entries(many)...)
			if len(others) != len(bs) {
				t.Fatalf("of %d: %d parts, not %d", size, len(others), len(bs))
			}
			for i := range bs {
				odd := slices.Clone(bs)
				odd[i] = others[i]
				wantNoJoin(t, "two sizes", odd...)
			}
		}
	}
	// The last one would fit into either size.
	es := entries(6)
	wantNoJoin(t, "two sizes", aPart(128, 0, 2, "a", es[:5]...), aPart(256, 1, 2, "a", es[5:]...))
}

// P6.1: entries that do not rise from part to part, or whose Pages are alike in two parts.
func TestJoinOfEntriesThatMayNotBe(t *testing.T) {
	es := entries(15)
	last := func(turn func(e *api.Entry)) [][]byte {
		odd := slices.Clone(es)
		turn(&odd[10])
		return allParts(128, "a", odd...)
	}
	for i, bs := range [][][]byte{
		last(func(e *api.Entry) { e.Addr = es[9].Addr }),
		last(func(e *api.Entry) { e.Addr = es[9].Addr - 1 }),
		last(func(e *api.Entry) { e.Addr = es[0].Addr }),
		last(func(e *api.Entry) { e.Page = es[9].Page }),
		last(func(e *api.Entry) { e.Page = es[0].Page }),
		last(func(e *api.Entry) { e.Page, e.Dirty = es[7].Page, !es[7].Dirty }),
	} {
		for k, b := range bs {
			wantNumber(t, b, k, 3)
		}
		wantNoJoin(t, "the "+label.Hex(uint64(i))+"-th", bs...)
	}
	bs := last(func(e *api.Entry) { e.Addr = es[9].Addr + 1 })
	wantJoinedAgain(t, bs...)
	if _, _, e := seg.Join(bs...); e != nil {
		t.Errorf("Join: %v", e)
	}
}

// P6.1: more entries than there may be, though each part is one: 256 are joined, one more is not, nor ever so many.
func TestJoinOfTooMany(t *testing.T) {
	wantParts(t, allParts(128, "a", entries(256)...), "a", entries(256)...)
	for _, many := range []int{257, 260, 5000, 65535 * 5} {
		var es []api.Entry
		for i := range many {
			es = append(es, api.Entry{Addr: uint64(i), Page: i % 256, Seq: 1})
		}
		bs := allParts(128, "a", es...)
		for i, b := range bs {
			wantNumber(t, b, i, len(bs))
		}
		wantNoJoin(t, "too many", bs...)
	}
	wantNoJoin(t, "the same one, ever so often", slices.Repeat([][]byte{aPart(128, 0, 1, "a")}, 100000)...)
}

// R4: the entries that are lent to May and Cut stay, their spare room too.
func TestLentEntriesStay(t *testing.T) {
	for _, room := range []int{0, 1, 7, 300} {
		for _, whole := range [][]api.Entry{nil, entries(1), entries(5), entries(23), entries(256), make([]api.Entry, 9)} {
			es, unchanged := lentEntries(t, whole, room)
			seg.May(es...)
			for _, size := range []int{-1, 0, 127, 128, 200, 256, 257} {
				for _, name := range []string{"a", "日本", ""} {
					bs, _ := seg.Cut(size, name, es...)
					for _, b := range bs {
						scribble(b)
					}
				}
			}
			unchanged()
		}
	}
}

// R4: the parts that are lent to Number and Join stay, their spare room too.
func TestLentPartsStay(t *testing.T) {
	for _, room := range []int{0, 1, 10, 300} {
		for _, whole := range [][][]byte{
			allParts(128, "a", entries(23)...), allParts(200, "日本"), allParts(128, "a", entries(23)...)[1:], {make([]byte, 128)},
			{aPart(128, 0, 2, "a", entries(5)...), aPart(128, 1, 2, "b", entries(2)...)}, {bytes.Repeat([]byte{255}, 128)},
		} {
			bs, unchanged := lentParts(t, whole, room)
			for _, b := range bs {
				seg.Number(b)
			}
			_, es, _ := seg.Join(bs...)
			scribbleEntries(es)
			unchanged()
		}
	}
}

// R4: what was answered stays as it was, whatever becomes of what was lent, of other answers, and of other parts.
func TestAnswersStandAlone(t *testing.T) {
	es := slices.Grow(entries(23), 20)
	want := allParts(128, "日本", entries(23)...)
	one, other := cut(t, 128, "日本", es...), cut(t, 128, "日本", es...)
	scribbleEntries(es)
	for i := range other {
		scribble(other[i])
		for k := i + 1; k < len(other); k++ {
			if !bytes.Equal(other[k], want[k]) {
				t.Errorf("the %d-th, behind the %d-th: % x", k, i, other[k])
			}
		}
	}
	if !slices.EqualFunc(one, want, bytes.Equal) {
		t.Errorf("% x", one)
	}

	name, first, e := seg.Join(one...)
	_, second, again := seg.Join(one...)
	if e != nil || again != nil {
		t.Fatal(e, again)
	}
	scribbleEntries(second)
	for _, b := range one {
		scribble(b)
	}
	if name != "日本" || !slices.Equal(first, entries(23)) {
		t.Errorf("%q, %+v", name, first)
	}
}

// R5: what is told hangs on the arguments alone, from several goroutines at one time too.
func TestAnswersHangOnTheArgumentsAlone(t *testing.T) {
	es := entries(23)
	bs := allParts(128, "日本", es...)
	var all sync.WaitGroup
	for range 8 {
		all.Go(func() {
			for range 100 {
				wantParts(t, bs, "日本", es...)
				wantNoParts(t, 128, "", es...)
				wantNoNumber(t, bs[0][1:], "without the first byte")
				wantNoJoin(t, "without the first one", bs[1:]...)
			}
		})
	}
	all.Wait()
}

// P6.1: whatever bytes there are, Number tells of them what the document's words say, and Join joins them only to what Cut lays so.
func FuzzNumberAndJoin(f *testing.F) {
	bs := allParts(128, "ab", entries(8)...)
	f.Add(bs[0], bs[1])
	f.Add(bs[1], bs[0])
	f.Add(aPart(256, 0, 1, "日本", greatest(14)...), []byte{})
	f.Add(aPart(200, 3, 7, "a", entries(10)...), aPart(200, 6, 7, "a", entries(2)...))
	f.Add(bytes.Repeat([]byte{255}, 200), make([]byte, 200))
	f.Fuzz(func(t *testing.T, a, b []byte) {
		for _, one := range [][]byte{a, b} {
			wantAsWorded(t, one)
			if len(one) < 256 {
				wantAsWorded(t, padded(one, 256))
			}
		}
		wantJoinedAgain(t, a, b)
	})
}

package note_test

import (
	"bytes"
	"encoding/binary"
	"errors"
	"math"
	"slices"
	"sync"
	"testing"

	"scullery/api"
	"scullery/note"
)

// filler is what stands in spare room, to see whether somebody writes there.
const filler = 0xEE

// gone is a note of an address that is there no more.
func gone(addr uint64, seq int) api.Note {
	return api.Note{Gone: true, Entry: api.Entry{Addr: addr, Seq: seq}}
}

// at is a note of an address whose block stands on a page.
func at(addr uint64, seq, page int, dirty bool) api.Note {
	return api.Note{Entry: api.Entry{Addr: addr, Page: page, Dirty: dirty, Seq: seq}}
}

// byHand lays notes as the document words it, without the zeros, whether they may be or not, behind a number that need not be theirs.
func byHand(many uint64, ns ...api.Note) []byte {
	out := binary.AppendUvarint(nil, many)
	for _, n := range ns {
		out = binary.AppendUvarint(out, n.Entry.Addr)
		out = binary.AppendUvarint(out, uint64(n.Entry.Seq))
		if n.Gone {
			out = append(out, 0)
			continue
		}
		kind := byte(1)
		if n.Entry.Dirty {
			kind = 2
		}
		out = binary.AppendUvarint(append(out, kind), uint64(n.Entry.Page))
	}
	return out
}

// padded answers bytes with zeros behind, up to the size.
func padded(b []byte, size int) []byte {
	return slices.Concat(b, make([]byte, size-len(b)))
}

// addresses are the edges: from each power of 128 on Put lays one byte more.
func addresses() []uint64 {
	out := []uint64{0, 1, 300, 0x0102030405060708, math.MaxUint64 - 1, math.MaxUint64}
	for bits := 7; bits <= 63; bits += 7 {
		out = append(out, 1<<bits-1, 1<<bits)
	}
	return out
}

// notes are ones that may be: all that a note tells, at its edges.
func notes() []api.Note {
	var out []api.Note
	for _, seq := range []int{1, 2, 127, 128, 1<<14 - 1, 1 << 14, 1<<35 - 1, 1 << 35, 1<<40 - 2, 1<<40 - 1} {
		for _, addr := range addresses() {
			out = append(out, gone(addr, seq))
			for _, page := range []int{0, 1, 2, 127, 128, 254, 255} {
				out = append(out, at(addr, seq, page, false), at(addr, seq, page, true))
			}
		}
	}
	return out
}

// notNotes are ones that may not be, most of them for one reason alone.
func notNotes() []api.Note {
	out := []api.Note{{}, {Gone: true}, at(5, -1, -1, true)}
	for _, seq := range []int{math.MinInt, -1 << 40, -2, -1, 0, 1 << 40, 1<<40 + 1, 1 << 41, math.MaxInt} {
		out = append(out, gone(0, seq), gone(7, seq), at(0, seq, 0, false), at(7, seq, 200, true))
	}
	for _, page := range []int{math.MinInt, -256, -255, -1, 256, 257, 511, 512, 1 << 16, 1 << 32, math.MaxInt} {
		out = append(out, at(0, 1, page, false), at(7, api.MaxSeq, page, true))
	}
	for _, page := range []int{math.MinInt, -1, 1, 2, 127, 128, 255, 256, math.MaxInt} {
		out = append(out, api.Note{Gone: true, Entry: api.Entry{Addr: 7, Page: page, Seq: 9}})
	}
	out = append(out, api.Note{Gone: true, Entry: api.Entry{Dirty: true, Seq: 1}}, api.Note{Gone: true, Entry: api.Entry{Addr: 7, Page: 3, Dirty: true, Seq: 9}})
	return out
}

// equals are as many notes as are asked for, of three bytes each.
func equals(many int) []api.Note {
	var out []api.Note
	for i := range many {
		out = append(out, gone(uint64(i%128), 1+i%127))
	}
	return out
}

// several are as many notes as are asked for, of different lengths.
func several(many int) []api.Note {
	all := notes()
	var out []api.Note
	for i := range many {
		out = append(out, all[i*37%len(all)])
	}
	return out
}

// laid answers the page of notes that fit.
func laid(t *testing.T, size int, ns ...api.Note) []byte {
	t.Helper()
	b, e := note.Lay(size, ns...)
	if e != nil {
		t.Fatalf("Lay(%d) of %d notes: %v", size, len(ns), e)
	}
	return b
}

// isWrong tells whether an error is one of the layers' own, not wrapped, of that code.
func isWrong(e error, code api.Errno) bool {
	wrong, ok := e.(*api.Wrong)
	return ok && wrong != nil && wrong.Code == code && errors.Unwrap(e) == nil
}

// wantNoPage fails, if Lay answers a page, or another error.
func wantNoPage(t *testing.T, code api.Errno, size int, ns ...api.Note) {
	t.Helper()
	if b, e := note.Lay(size, ns...); b != nil || !isWrong(e, code) {
		t.Errorf("Lay(%d) of %d notes: % x, %v, not the code %d", size, len(ns), b, e, code)
	}
}

// wantPage fails, if Lay does not lay just these bytes, or Read does not tell just these notes.
func wantPage(t *testing.T, b []byte, ns ...api.Note) {
	t.Helper()
	if got, e := note.Lay(len(b), ns...); e != nil || !bytes.Equal(got, b) {
		t.Errorf("Lay(%d, %+v): % x, %v, not % x", len(b), ns, got, e, b)
	}
	if got, e := note.Read(b); e != nil || !slices.Equal(got, ns) {
		t.Errorf("Read(% x): %+v, %v, not %+v", b, got, e, ns)
	}
}

// wantNoNotes fails, if Read answers notes, or another error.
func wantNoNotes(t *testing.T, b []byte, what string) {
	t.Helper()
	if ns, e := note.Read(b); ns != nil || !isWrong(e, api.ErrForm) {
		t.Errorf("%s: Read(% x): %+v, %v", what, b, ns, e)
	}
}

// wantNoneOrAgain fails, if Read answers notes that Lay does not lay as just these bytes.
func wantNoneOrAgain(t *testing.T, b []byte) {
	t.Helper()
	ns, e := note.Read(b)
	if e != nil {
		if ns != nil || !isWrong(e, api.ErrForm) {
			t.Errorf("Read(% x): %+v, %v", b, ns, e)
		}
		return
	}
	for _, n := range ns {
		if !note.May(n) {
			t.Errorf("Read(% x): %+v may not be", b, n)
		}
	}
	if again, e := note.Lay(len(b), ns...); e != nil || !bytes.Equal(again, b) {
		t.Errorf("Read(% x): %+v, %v", b, ns, e)
	}
}

// lent answers b with spare room behind it, and a check that neither is changed.
func lent(t *testing.T, b []byte, room int) ([]byte, func()) {
	t.Helper()
	whole := slices.Concat(b, bytes.Repeat([]byte{filler}, room))
	before := bytes.Clone(whole)
	return whole[:len(b):len(whole)], func() {
		t.Helper()
		if !bytes.Equal(whole, before) {
			t.Errorf("R4: % x, not % x", whole, before)
		}
	}
}

// lentNotes answers notes with spare room behind them, and a check that neither is changed.
func lentNotes(t *testing.T, ns []api.Note, room int) ([]api.Note, func()) {
	t.Helper()
	whole := slices.Clone(ns)
	for range room {
		whole = append(whole, at(filler, filler, filler, true))
	}
	before := slices.Clone(whole)
	return whole[:len(ns):len(whole)], func() {
		t.Helper()
		if !slices.Equal(whole, before) {
			t.Errorf("R4: %+v, not %+v", whole, before)
		}
	}
}

// scribble changes all bytes that were answered, the spare room too.
func scribble(b []byte) {
	all := b[:cap(b)]
	for i := range all {
		all[i] ^= 0x55
	}
}

// scribbleNotes changes all notes that were answered, the spare room too.
func scribbleNotes(ns []api.Note) {
	all := ns[:cap(ns)]
	for i := range all {
		all[i] = at(filler, filler, filler, !all[i].Entry.Dirty)
	}
}

// P5.1: which notes may be.
func TestMay(t *testing.T) {
	for _, n := range notes() {
		if !note.May(n) {
			t.Errorf("May(%+v): false", n)
		}
	}
	for _, n := range notNotes() {
		if note.May(n) {
			t.Errorf("May(%+v): true", n)
		}
	}
}

// P5.1: each page about those that there are, of a note that is Gone and of one that is not.
func TestMayOfEachPage(t *testing.T) {
	for page := -600; page <= 1100; page++ {
		for _, dirty := range []bool{false, true} {
			n := at(5, 9, page, dirty)
			if got, want := note.May(n), page >= 0 && page <= 255; got != want {
				t.Errorf("May(%+v): %v", n, got)
			}
			n.Gone = true
			if got, want := note.May(n), page == 0 && !dirty; got != want {
				t.Errorf("May(%+v): %v", n, got)
			}
		}
	}
}

// P5.1: the document's example, and other pages whose bytes are known, each at its place.
func TestKnown(t *testing.T) {
	for _, x := range []struct {
		ns   []api.Note
		want []byte
	}{
		{nil, []byte{0}},
		{[]api.Note{gone(1, 1)}, []byte{1, 1, 1, 0}},
		{[]api.Note{gone(0, 1)}, []byte{1, 0, 1, 0}},
		{[]api.Note{at(1, 1, 0, false)}, []byte{1, 1, 1, 1, 0}},
		{[]api.Note{at(1, 1, 0, true)}, []byte{1, 1, 1, 2, 0}},
		{[]api.Note{at(300, 127, 127, true)}, []byte{1, 172, 2, 127, 2, 127}},
		{[]api.Note{at(300, 128, 128, false)}, []byte{1, 172, 2, 128, 1, 1, 128, 1}},
		{[]api.Note{at(math.MaxUint64, api.MaxSeq, 255, true)},
			[]byte{1, 255, 255, 255, 255, 255, 255, 255, 255, 255, 1, 255, 255, 255, 255, 255, 31, 2, 255, 1}},
		{[]api.Note{gone(math.MaxUint64, api.MaxSeq)},
			[]byte{1, 255, 255, 255, 255, 255, 255, 255, 255, 255, 1, 255, 255, 255, 255, 255, 31, 0}},
		{[]api.Note{at(7, 2, 200, true), gone(0, 3), at(128, 4, 9, false)}, []byte{3, 7, 2, 2, 200, 1, 0, 3, 0, 128, 1, 4, 1, 9}},
		{[]api.Note{gone(9, 5), gone(9, 5), gone(1, 4)}, []byte{3, 9, 5, 0, 9, 5, 0, 1, 4, 0}},
	} {
		if got := note.Size(x.ns...); got != len(x.want) {
			t.Errorf("Size(%+v): %d, not %d", x.ns, got, len(x.want))
		}
		for _, size := range []int{128, 129, 200, 255, 256} {
			wantPage(t, padded(x.want, size), x.ns...)
		}
	}
	if note.Size() != 1 || note.Size(nil...) != 1 || note.Size([]api.Note{}...) != 1 {
		t.Error("Size of no notes")
	}
}

// P5.1: each note that may be, alone, as the document words it.
func TestEachNote(t *testing.T) {
	for i, n := range notes() {
		want := byHand(1, n)
		if got := note.Size(n); got != len(want) {
			t.Errorf("Size(%+v): %d, not %d", n, got, len(want))
		}
		if note.Fit(len(want), n) != 1 || note.Fit(len(want)-1, n) != 0 {
			t.Errorf("Fit of %+v", n)
		}
		wantPage(t, padded(want, 128+i%129), n)
	}
}

// P5.1: notes of different lengths, in their order, in each size that a page may have.
func TestEachSize(t *testing.T) {
	for many := range 12 {
		ns := several(many)
		slices.Reverse(ns)
		want := byHand(uint64(many), ns...)
		if note.Size(ns...) != len(want) {
			t.Errorf("Size of %d: %d, not %d", many, note.Size(ns...), len(want))
		}
		for size := 128; size <= 256; size++ {
			if len(want) <= size {
				wantPage(t, padded(want, size), ns...)
			} else {
				wantNoPage(t, api.ErrFull, size, ns...)
			}
		}
	}
}

// P5.1: the number of notes is laid in one byte more from 128 on, and from 16384 on.
func TestSizeOfMany(t *testing.T) {
	for _, x := range []struct{ many, want int }{{1, 4}, {127, 382}, {128, 386}, {129, 389}, {16383, 49151}, {16384, 49155}} {
		if got := note.Size(equals(x.many)...); got != x.want {
			t.Errorf("Size of %d: %d, not %d", x.many, got, x.want)
		}
	}
	all := several(300)
	for many := range all {
		ns := all[:many]
		if got, want := note.Size(ns...), len(byHand(uint64(many), ns...)); got != want {
			t.Errorf("Size of %d: %d, not %d", many, got, want)
		}
	}
}

// P5.1: of many notes one of which may not be, wherever it stands, nothing is laid, and nothing fits.
func TestOneThatMayNotBe(t *testing.T) {
	for _, wrong := range notNotes() {
		for _, many := range []int{1, 2, 3, 30, 200} {
			for _, where := range []int{0, many / 2, many - 1} {
				ns := equals(many)
				ns[where] = wrong
				if note.Size(ns...) != 0 {
					t.Errorf("Size of %d, the %d-th %+v: %d", many, where, wrong, note.Size(ns...))
				}
				for _, size := range []int{math.MinInt, -1, 0, 1, 4, 128, 256, math.MaxInt} {
					if got := note.Fit(size, ns...); got != 0 {
						t.Errorf("Fit(%d) of %d, the %d-th %+v: %d", size, many, where, wrong, got)
					}
					// That one may not be is told, though they have too many bytes, too.
					wantNoPage(t, api.ErrInvalid, size, ns...)
				}
			}
		}
	}
}

// P5.1: as many first notes as have just so many bytes, one less and one more, also where their number becomes a byte longer.
func TestFit(t *testing.T) {
	for _, ns := range [][]api.Note{equals(0), equals(1), equals(2), equals(126), equals(127), equals(128), equals(129), equals(150), several(150), several(40)} {
		for many := range len(ns) + 1 {
			size := len(byHand(uint64(many), ns[:many]...))
			want := many
			if got := note.Fit(size, ns...); got != want {
				t.Errorf("Fit(%d) of %d: %d, not %d", size, len(ns), got, want)
			}
			if got := note.Fit(size-1, ns...); got != max(0, want-1) {
				t.Errorf("Fit(%d) of %d: %d, not %d", size-1, len(ns), got, want-1)
			}
			if got := note.Fit(size+1, ns...); got != want {
				t.Errorf("Fit(%d) of %d: %d, not %d", size+1, len(ns), got, want)
			}
		}
	}
}

// P5.1: as many as fit are told by trying each number of them.
func TestFitByTrying(t *testing.T) {
	for _, ns := range [][]api.Note{nil, equals(5), equals(140), several(140)} {
		for size := -3; size <= 450; size++ {
			want := 0
			for many := range len(ns) + 1 {
				if len(byHand(uint64(many), ns[:many]...)) <= size {
					want = many
				}
			}
			if got := note.Fit(size, ns...); got != want {
				t.Errorf("Fit(%d) of %d: %d, not %d", size, len(ns), got, want)
			}
		}
	}
}

// P5.1: sizes that no page has are none to Fit: below 0, 0, and far beyond all notes.
func TestFitOfOddSizes(t *testing.T) {
	for _, ns := range [][]api.Note{nil, equals(1), equals(200)} {
		for _, size := range []int{math.MinInt, -1 << 32, -4, -1, 0, 1, 2, 3} {
			if got := note.Fit(size, ns...); got != 0 {
				t.Errorf("Fit(%d) of %d: %d", size, len(ns), got)
			}
		}
		for _, size := range []int{1 << 20, 1 << 40, math.MaxInt} {
			if got := note.Fit(size, ns...); got != len(ns) {
				t.Errorf("Fit(%d) of %d: %d", size, len(ns), got)
			}
		}
	}
	// A number of 127 is as long as one of 126; one of 128 is longer.
	if got := note.Fit(385, equals(150)...); got != 127 {
		t.Errorf("Fit(385): %d", got)
	}
	if got := note.Fit(386, equals(150)...); got != 128 {
		t.Errorf("Fit(386): %d", got)
	}
}

// P5.1: a page of a wrong size is not laid, whatever the notes.
func TestLayOfWrongSizes(t *testing.T) {
	for size := -10; size <= 600; size++ {
		if size >= 128 && size <= 256 {
			continue
		}
		wantNoPage(t, api.ErrInvalid, size)
		wantNoPage(t, api.ErrInvalid, size, gone(1, 1))
		wantNoPage(t, api.ErrInvalid, size, api.Note{})
		wantNoPage(t, api.ErrInvalid, size, equals(300)...)
	}
	for _, size := range []int{math.MinInt, -1 << 32, -200, 1 << 20, 1<<32 + 200, math.MaxInt} {
		wantNoPage(t, api.ErrInvalid, size)
		wantNoPage(t, api.ErrInvalid, size, gone(1, 1))
	}
}

// filling answers notes that have just as many bytes as the size, if that is from 7 to 384.
func filling(size int) []api.Note {
	ns := []api.Note{at(0, 1, 0, false)}
	for size%3 != len(byHand(1, ns...))%3 {
		ns[0].Entry.Addr = ns[0].Entry.Addr<<7 | 1
	}
	for len(byHand(uint64(len(ns)), ns...)) < size {
		ns = append(ns, gone(uint64(len(ns)), len(ns)))
	}
	return ns
}

// P5.1: notes that have just as many bytes as the page are laid, one note more is not.
func TestLayOfFullPages(t *testing.T) {
	many := several(100)
	for size := 128; size <= 256; size++ {
		ns := filling(size)
		if note.Size(ns...) != size || note.Fit(size, ns...) != len(ns) {
			t.Errorf("of %d: Size %d, Fit %d", size, note.Size(ns...), note.Fit(size, ns...))
		}
		wantPage(t, byHand(uint64(len(ns)), ns...), ns...)
		wantNoPage(t, api.ErrFull, size, append(ns, gone(1, 1))...)
		if size > 128 {
			// One byte too many.
			wantNoPage(t, api.ErrFull, size-1, ns...)
		}
		fit := note.Fit(size, many...)
		laid(t, size, many[:fit]...)
		wantNoPage(t, api.ErrFull, size, many[:fit+1]...)
	}
	wantNoPage(t, api.ErrFull, 256, equals(86)...)
	wantNoPage(t, api.ErrFull, 256, equals(5000)...)
	wantPage(t, byHand(85, equals(85)...), equals(85)...)
}

// P5.1: bytes of a length that no page has are none, though all else is well.
func TestReadOfWrongSizes(t *testing.T) {
	wantNoNotes(t, nil, "nil")
	wantNoNotes(t, []byte{}, "none")
	wantNoNotes(t, make([]byte, 0, 200), "none, and room")
	for size := range 700 {
		if size >= 128 && size <= 256 {
			wantPage(t, make([]byte, size))
			continue
		}
		wantNoNotes(t, make([]byte, size), "zeros")
		if size >= 4 {
			wantNoNotes(t, padded(byHand(1, gone(1, 1)), size), "a wrong size")
		}
		if size > 256 && size < 380 {
			ns := filling(size)
			wantNoNotes(t, byHand(uint64(len(ns)), ns...), "a wrong size, filled")
		}
	}
}

// P5.1: equal bytes that are not 0 are no page of notes, but for those that Lay lays so.
func TestReadOfEqualBytes(t *testing.T) {
	for size := 120; size <= 260; size++ {
		for one := 1; one < 256; one++ {
			wantNoneOrAgain(t, bytes.Repeat([]byte{byte(one)}, size))
		}
		wantNoNotes(t, bytes.Repeat([]byte{255}, size), "bytes 255")
	}
}

// P5.1: fewer notes than the number says, and more, are none.
func TestReadOfWrongNumbers(t *testing.T) {
	for _, many := range []int{0, 1, 2, 5, 20, 40} {
		ns := equals(many)
		for number := range uint64(300) {
			if int(number) != many {
				wantNoNotes(t, padded(byHand(number, ns...), 256), "a wrong number")
			}
		}
		for _, number := range []uint64{1 << 16, 1 << 31, 1 << 32, 1<<32 + uint64(many), 1 << 63, math.MaxUint64} {
			wantNoNotes(t, padded(byHand(number, ns...), 256), "a number that is too great")
		}
		wantPage(t, padded(byHand(uint64(many), ns...), 256), ns...)
	}
	// The page is full, and a note is missing.
	wantNoNotes(t, byHand(86, equals(85)...), "a note is missing")
	wantNoNotes(t, byHand(84, equals(85)...), "a note is too many")
	wantPage(t, byHand(85, equals(85)...), equals(85)...)
}

// P5.1: a page that ends within its last note, after each number of its bytes, is none.
func TestReadOfNotesThatEnd(t *testing.T) {
	for size := 128; size <= 256; size++ {
		for _, last := range []api.Note{gone(1<<63, api.MaxSeq), at(300, 300, 200, true), at(1<<40, 1<<30, 0, false)} {
			lastBytes := byHand(1, last)[1:]
			for have := range lastBytes {
				ns := filling(size - have)
				b := append(byHand(uint64(len(ns)+1), ns...), lastBytes[:have]...)
				if len(b) != size {
					t.Fatalf("%d bytes, not %d", len(b), size)
				}
				wantNoNotes(t, b, "a note that ends")
			}
			ns := append(filling(size-len(lastBytes)), last)
			wantPage(t, byHand(uint64(len(ns)), ns...), ns...)
		}
	}
}

// P5.1: a number that Put would have laid shorter, or that has more than 64 bits, makes a page none, wherever it stands.
func TestReadOfLongerNumbers(t *testing.T) {
	for _, x := range []struct {
		b    []byte
		what string
	}{
		{[]byte{128, 0}, "no notes, in two bytes"},
		{[]byte{129, 0, 1, 1, 0}, "one note, in two bytes"},
		{[]byte{1, 129, 0, 1, 0}, "an address"},
		{[]byte{1, 1, 129, 0, 0}, "a Seq"},
		{[]byte{1, 1, 1, 1, 129, 0}, "a page"},
		{[]byte{1, 1, 1, 1, 128, 0}, "a page of 0"},
		{[]byte{1, 255, 255, 255, 255, 255, 255, 255, 255, 255, 2, 1, 0}, "an address of 65 bits"},
		{[]byte{1, 255, 255, 255, 255, 255, 255, 255, 255, 255, 129, 0, 1, 0}, "an address of eleven bytes"},
		{[]byte{1, 1, 255, 255, 255, 255, 255, 255, 255, 255, 255, 127, 0}, "a Seq of 70 bits"},
	} {
		for _, size := range []int{128, 200, 256} {
			wantNoNotes(t, padded(x.b, size), x.what)
		}
	}
	wantPage(t, padded([]byte{1, 1, 1, 1, 1}, 128), at(1, 1, 1, false))
}

// P5.1: a kind's byte is 0, 1 or 2.
func TestReadOfEachKind(t *testing.T) {
	for kind := 3; kind < 256; kind++ {
		wantNoNotes(t, padded([]byte{1, 7, 9, byte(kind)}, 128), "a kind that is none")
		wantNoNotes(t, padded([]byte{1, 7, 9, byte(kind), 5}, 128), "a kind that is none, and a page")
		wantNoNotes(t, padded([]byte{2, 7, 9, 0, 7, 9, byte(kind), 5}, 128), "a second kind that is none")
	}
	wantPage(t, padded([]byte{1, 7, 9, 0}, 128), gone(7, 9))
	wantPage(t, padded([]byte{1, 7, 9, 1, 5}, 128), at(7, 9, 5, false))
	wantPage(t, padded([]byte{1, 7, 9, 2, 5}, 128), at(7, 9, 5, true))
}

// P5.1: a page of a note that may not be is none, wherever it stands.
func TestReadOfNotesThatMayNotBe(t *testing.T) {
	for _, wrong := range notNotes() {
		// What a note that is Gone has besides stands nowhere in its bytes.
		if wrong.Gone && wrong.Entry.Seq >= 1 && wrong.Entry.Seq <= api.MaxSeq {
			continue
		}
		for _, where := range []int{0, 1, 2} {
			ns := slices.Insert(equals(2), where, wrong)
			wantNoNotes(t, padded(byHand(3, ns...), 256), "a note that may not be")
		}
		wantNoNotes(t, padded(byHand(1, wrong), 128), "a note that may not be")
	}
}

// P5.1: a note that is Gone has no page: what stands behind it is the next one, or one byte too many.
func TestReadOfGoneWithPage(t *testing.T) {
	for page := 1; page < 256; page++ {
		wantNoNotes(t, padded([]byte{1, 7, 9, 0, byte(page)}, 128), "a page of what is gone")
	}
}

// P5.1: a byte behind the notes that is not 0 makes a page none.
func TestReadOfBytesBehind(t *testing.T) {
	for _, many := range []int{0, 1, 3, 40} {
		ns := equals(many)
		b := padded(byHand(uint64(many), ns...), 128)
		for i := note.Size(ns...); i < len(b); i++ {
			for _, one := range []byte{1, 2, 127, 128, 255} {
				b[i] = one
				wantNoNotes(t, b, "a byte behind")
				b[i] = 0
			}
		}
		wantPage(t, b, ns...)
	}
}

// P5.1: a page with any one byte another one is none, or one that Lay lays as just these bytes.
func TestReadOfAnotherByte(t *testing.T) {
	for _, ns := range [][]api.Note{nil, equals(5), equals(42), several(6), filling(130), {at(math.MaxUint64, api.MaxSeq, 255, true)}} {
		b := laid(t, 130, ns...)
		for i := range b {
			for turned := 1; turned < 256; turned++ {
				b[i] ^= byte(turned)
				wantNoneOrAgain(t, b)
				b[i] ^= byte(turned)
			}
		}
		wantPage(t, b, ns...)
	}
}

// P5.1: a page without its first or last byte, or with one more, is none, or one that Lay lays as just these bytes.
func TestReadOfPagesMovedOn(t *testing.T) {
	for size := 128; size <= 256; size++ {
		b := laid(t, size, filling(size)...)
		wantNoNotes(t, b[:size-1], "without the last byte")
		wantNoneOrAgain(t, b[1:])
		wantNoneOrAgain(t, slices.Concat([]byte{1}, b))
		wantNoNotes(t, slices.Concat(b, []byte{1}), "one byte more")
	}
}

// R2: beside an error all else is its zero value.
func TestNothingBesideErrors(t *testing.T) {
	wantNoPage(t, api.ErrInvalid, 127, gone(1, 1))
	wantNoPage(t, api.ErrInvalid, 128, gone(1, 1), gone(1, 0))
	wantNoPage(t, api.ErrFull, 128, equals(43)...)
	b := laid(t, 128, equals(42)...)
	b[127] = 9
	wantNoNotes(t, b, "the last byte another one")
}

// R4: the bytes that are lent to Read stay, their spare room too.
func TestLentBytesStay(t *testing.T) {
	good := laid(t, 200, several(4)...)
	for _, room := range []int{0, 1, 10, 100, 600} {
		for _, whole := range [][]byte{good, good[1:], good[:127], make([]byte, 128), bytes.Repeat([]byte{255}, 200), byHand(86, equals(85)...), nil} {
			b, unchanged := lent(t, whole, room)
			ns, _ := note.Read(b)
			scribbleNotes(ns)
			unchanged()
		}
	}
}

// R4: the notes that are lent to Size, Fit and Lay stay, their spare room too.
func TestLentNotesStay(t *testing.T) {
	for _, room := range []int{0, 1, 7, 100} {
		for _, whole := range [][]api.Note{nil, equals(1), several(5), equals(200), {gone(1, 1), {}}} {
			ns, unchanged := lentNotes(t, whole, room)
			note.Size(ns...)
			for _, size := range []int{-1, 0, 20, 127, 128, 200, 256, 257, 10000} {
				note.Fit(size, ns...)
				b, _ := note.Lay(size, ns...)
				scribble(b)
			}
			unchanged()
		}
	}
}

// R4: what was answered stays as it was, whatever becomes of what was lent, and of other answers.
func TestAnswersStandAlone(t *testing.T) {
	ns := slices.Grow(several(5), 20)
	want := byHand(5, several(5)...)
	one, other := laid(t, 200, ns...), laid(t, 200, ns...)
	scribbleNotes(ns)
	scribble(other)
	wantPage(t, one, several(5)...)
	if !bytes.Equal(one, padded(want, 200)) {
		t.Errorf("% x", one)
	}

	first, e := note.Read(one)
	second, again := note.Read(one)
	if e != nil || again != nil {
		t.Fatal(e, again)
	}
	scribbleNotes(second)
	scribble(one)
	if !slices.Equal(first, several(5)) {
		t.Errorf("%+v", first)
	}
}

// R5: what is told hangs on the arguments alone, from several goroutines at one time too.
func TestAnswersHangOnTheArgumentsAlone(t *testing.T) {
	ns := several(7)
	size := len(byHand(7, ns...))
	page := padded(byHand(7, ns...), 256)
	var all sync.WaitGroup
	for range 8 {
		all.Go(func() {
			for range 200 {
				if note.Size(ns...) != size || note.Fit(256, ns...) != 7 || !note.May(ns[0]) {
					t.Error("Size, Fit or May")
				}
				wantPage(t, page, ns...)
				wantNoPage(t, api.ErrInvalid, 128, api.Note{})
				wantNoNotes(t, page[1:], "without the first byte")
			}
		})
	}
	all.Wait()
}

// P5.1: whatever is read as notes is what Lay lays, and all else is refused.
func FuzzRead(f *testing.F) {
	f.Add(padded(byHand(1, gone(1, 1)), 128))
	f.Add(padded(byHand(6, several(6)...), 256))
	f.Add(byHand(85, equals(85)...))
	f.Add(bytes.Repeat([]byte{255}, 200))
	f.Add(make([]byte, 200))
	f.Add([]byte{})
	f.Fuzz(func(t *testing.T, b []byte) {
		wantNoneOrAgain(t, b)
		if len(b) < 256 {
			wantNoneOrAgain(t, padded(b, 256))
		}
	})
}

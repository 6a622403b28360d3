package pack_test

import (
	"bytes"
	"encoding/binary"
	"math"
	"math/bits"
	"slices"
	"sync"
	"testing"

	"scullery/pack"
)

// filler is what stands in spare room, to see whether somebody writes there.
const filler = 0xEE

// ahead are beginnings to lay numbers behind.
var ahead = [][]byte{nil, {}, {0}, {7}, {128}, {255, 128, 1}, bytes.Repeat([]byte{200}, 300)}

// behind are bytes that may stand behind a number.
var behind = [][]byte{nil, {}, {0}, {1}, {128}, {255}, {0, 0}, {128, 0}, {9, 8, 7}, bytes.Repeat([]byte{255}, 300)}

// joined are bytes one behind the other, in new memory.
func joined(parts ...[]byte) []byte {
	return bytes.Join(parts, nil)
}

// edges are numbers beside each power of two, so the greatest ones of each count of bytes and those behind them.
func edges() []uint64 {
	out := []uint64{0, 300, 0x0123456789ABCDEF, 0xFEDCBA9876543210, math.MaxUint64 - 1, math.MaxUint64}
	for shift := range 64 {
		power := uint64(1) << shift
		out = append(out, power-1, power, power+1)
	}
	return out
}

// byWords is a number by seven bits each, as the document words it: as many bytes as its bits ask for, one at least.
func byWords(n uint64) []byte {
	many := max(1, (bits.Len64(n)+6)/7)
	out := make([]byte, many)
	for i := range out {
		out[i] = byte(n >> (7 * i) & 127)
		if i < many-1 {
			out[i] += 128
		}
	}
	return out
}

// lent answers b with spare room behind it, and a check that neither is changed.
func lent(t *testing.T, b []byte, room int) ([]byte, func()) {
	t.Helper()
	whole := joined(b, bytes.Repeat([]byte{filler}, room))
	before := bytes.Clone(whole)
	return whole[:len(b):len(whole)], func() {
		t.Helper()
		if !bytes.Equal(whole, before) {
			t.Errorf("R4: % x, not % x", whole, before)
		}
	}
}

// scribble changes all that was answered, the spare room too.
func scribble(b []byte) {
	all := b[:cap(b)]
	for i := range all {
		all[i] ^= 0x55
	}
}

// wantNoNumber fails, if Get finds a number.
func wantNoNumber(t *testing.T, b []byte) {
	t.Helper()
	if n, left, ok := pack.Get(b); n != 0 || left != nil || ok {
		t.Errorf("Get(% x): %d, % x, %v", b, n, left, ok)
	}
}

// wantNoFixed fails, if Unfix finds a number.
func wantNoFixed(t *testing.T, b []byte, many int) {
	t.Helper()
	if n, left, ok := pack.Unfix(b, many); n != 0 || left != nil || ok {
		t.Errorf("Unfix(% x, %d): %d, % x, %v", b, many, n, left, ok)
	}
}

// P3.1: the document's example, and numbers whose bytes are known: the greatest ones of each count of bytes, and those behind them.
func TestPutAndGetKnown(t *testing.T) {
	for _, x := range []struct {
		n    uint64
		want []byte
	}{
		{300, []byte{172, 2}},
		{0, []byte{0}}, {1, []byte{1}}, {2, []byte{2}}, {64, []byte{64}}, {127, []byte{127}},
		{128, []byte{128, 1}}, {129, []byte{129, 1}}, {255, []byte{255, 1}}, {256, []byte{128, 2}}, {1<<14 - 1, []byte{255, 127}},
		{1 << 14, []byte{128, 128, 1}}, {1<<21 - 1, []byte{255, 255, 127}},
		{1 << 21, []byte{128, 128, 128, 1}}, {1<<28 - 1, []byte{255, 255, 255, 127}},
		{1 << 28, []byte{128, 128, 128, 128, 1}}, {1<<35 - 1, []byte{255, 255, 255, 255, 127}},
		{1 << 35, []byte{128, 128, 128, 128, 128, 1}}, {1<<42 - 1, []byte{255, 255, 255, 255, 255, 127}},
		{1 << 42, []byte{128, 128, 128, 128, 128, 128, 1}}, {1<<49 - 1, []byte{255, 255, 255, 255, 255, 255, 127}},
		{1 << 49, []byte{128, 128, 128, 128, 128, 128, 128, 1}}, {1<<56 - 1, []byte{255, 255, 255, 255, 255, 255, 255, 127}},
		{1 << 56, []byte{128, 128, 128, 128, 128, 128, 128, 128, 1}}, {1<<63 - 1, []byte{255, 255, 255, 255, 255, 255, 255, 255, 127}},
		{1 << 63, []byte{128, 128, 128, 128, 128, 128, 128, 128, 128, 1}}, {math.MaxUint64, []byte{255, 255, 255, 255, 255, 255, 255, 255, 255, 1}},
		{0x0123456789ABCDEF, []byte{239, 155, 175, 205, 248, 172, 209, 145, 1}},
	} {
		if got := pack.Put(nil, x.n); !bytes.Equal(got, x.want) {
			t.Errorf("Put(nil, %d): %v, not %v", x.n, got, x.want)
		}
		if n, left, ok := pack.Get(x.want); n != x.n || len(left) != 0 || !ok {
			t.Errorf("Get(%v): %d, %v, %v", x.want, n, left, ok)
		}
	}
}

// P3.1: Put behind any beginning, Get with anything behind.
func TestPutAndGetAtTheEdges(t *testing.T) {
	for _, n := range edges() {
		want := byWords(n)
		for _, b := range ahead {
			if got := pack.Put(b, n); !bytes.Equal(got, joined(b, want)) {
				t.Fatalf("Put(% x, %d): % x", b, n, got)
			}
		}
		for _, b := range behind {
			if got, left, ok := pack.Get(joined(want, b)); got != n || !bytes.Equal(left, b) || !ok {
				t.Fatalf("Get(% x, then % x): %d, % x, %v", want, b, got, left, ok)
			}
		}
	}
}

// P3.1: a number that is cut off is none.
func TestGetCutOff(t *testing.T) {
	wantNoNumber(t, nil)
	wantNoNumber(t, []byte{})
	for _, n := range edges() {
		whole := byWords(n)
		for end := range whole {
			wantNoNumber(t, whole[:end])
			wantNoNumber(t, whole[:end:end])
		}
	}
}

// P3.1: a number with zeros at its high end is none, wherever it ends.
func TestGetLongerThanPut(t *testing.T) {
	for _, n := range edges() {
		for b := byWords(n); len(b) < 13; {
			b[len(b)-1] |= 128
			b = append(b, 0)
			wantNoNumber(t, b)
			wantNoNumber(t, joined(b, []byte{1}))
			wantNoNumber(t, joined(b, []byte{9, 8, 7}))
		}
	}
}

// P3.1: of ten bytes the last one has but one bit; eleven are too many, whatever they are.
func TestGetOfTenBytes(t *testing.T) {
	for _, low := range []byte{128, 129, 200, 255} {
		nine := bytes.Repeat([]byte{low}, 9)
		for last := range 256 {
			b := append(bytes.Clone(nine), byte(last))
			for _, tail := range [][]byte{nil, {0}, {1}, {127}, {128, 1}} {
				if last != 1 {
					wantNoNumber(t, joined(b, tail))
				} else if n, left, ok := pack.Get(joined(b, tail)); !ok || n>>63 != 1 || n&127 != uint64(low-128) || !bytes.Equal(left, tail) {
					t.Errorf("Get(% x, then % x): %x, % x, %v", b, tail, n, left, ok)
				}
			}
		}
	}
	for many := range 300 {
		wantNoNumber(t, bytes.Repeat([]byte{128}, many))
		wantNoNumber(t, bytes.Repeat([]byte{255}, many))
	}
}

// P3.1: of all short bytes Get finds a number just where Put lays one.
func TestGetOfAllShortBytes(t *testing.T) {
	for first := range 256 {
		checkGet(t, []byte{byte(first)})
		for second := range 256 {
			checkGet(t, []byte{byte(first), byte(second)})
			for _, third := range []byte{0, 1, 2, 127, 128, 129, 255} {
				checkGet(t, []byte{byte(first), byte(second), third})
			}
		}
	}
}

// checkGet holds Get against what Put lays: the number's bytes must stand first, and no others may be read as one.
func checkGet(t *testing.T, b []byte) {
	t.Helper()
	n, left, ok := pack.Get(b)
	known, used := binary.Uvarint(b)
	want := used > 0 && bytes.HasPrefix(b, byWords(known))
	switch {
	case ok != want:
		t.Fatalf("Get(% x): %v", b, ok)
	case ok && (n != known || !bytes.Equal(joined(pack.Put(nil, n), left), b)):
		t.Fatalf("Get(% x): %d, % x", b, n, left)
	case !ok && (n != 0 || left != nil):
		t.Fatalf("Get(% x): %d, % x beside false", b, n, left)
	}
}

// P3.1: numbers of all counts of bytes, one behind the other, are got back in their order.
func TestGetOneBehindTheOther(t *testing.T) {
	var all []byte
	for _, n := range edges() {
		all = pack.Put(all, n)
	}
	for _, n := range edges() {
		got, left, ok := pack.Get(all)
		if got != n || !ok {
			t.Fatalf("%d, %v, not %d", got, ok, n)
		}
		all = left
	}
	if len(all) != 0 {
		t.Errorf("% x is left", all)
	}
}

// P3.1: the lowest bytes, the highest of them first.
func TestFixAndUnfixKnown(t *testing.T) {
	const mixed = 0x0123456789ABCDEF
	for _, x := range []struct {
		n    uint64
		many int
		want []byte
		back uint64
	}{
		{mixed, 0, nil, 0},
		{mixed, 1, []byte{0xEF}, 0xEF},
		{mixed, 2, []byte{0xCD, 0xEF}, 0xCDEF},
		{mixed, 3, []byte{0xAB, 0xCD, 0xEF}, 0xABCDEF},
		{mixed, 4, []byte{0x89, 0xAB, 0xCD, 0xEF}, 0x89ABCDEF},
		{mixed, 5, []byte{0x67, 0x89, 0xAB, 0xCD, 0xEF}, 0x6789ABCDEF},
		{mixed, 6, []byte{0x45, 0x67, 0x89, 0xAB, 0xCD, 0xEF}, 0x456789ABCDEF},
		{mixed, 7, []byte{0x23, 0x45, 0x67, 0x89, 0xAB, 0xCD, 0xEF}, 0x23456789ABCDEF},
		{mixed, 8, []byte{0x01, 0x23, 0x45, 0x67, 0x89, 0xAB, 0xCD, 0xEF}, mixed},
		{5, 2, []byte{0, 5}, 5},
		{256, 1, []byte{0}, 0},
		{0, 8, make([]byte, 8), 0},
		{math.MaxUint64, 8, bytes.Repeat([]byte{255}, 8), math.MaxUint64},
		{1 << 63, 8, []byte{128, 0, 0, 0, 0, 0, 0, 0}, 1 << 63},
		{1 << 63, 7, make([]byte, 7), 0},
	} {
		if got := pack.Fix(nil, x.n, x.many); !bytes.Equal(got, x.want) {
			t.Errorf("Fix(nil, %x, %d): % x", x.n, x.many, got)
		}
		if n, left, ok := pack.Unfix(x.want, x.many); n != x.back || len(left) != 0 || !ok {
			t.Errorf("Unfix(% x, %d): %x, % x, %v", x.want, x.many, n, left, ok)
		}
	}
}

// P3.1: Fix behind any beginning, Unfix with anything behind and with one byte too few.
func TestFixAndUnfixAtTheEdges(t *testing.T) {
	for _, n := range edges() {
		whole := binary.BigEndian.AppendUint64(nil, n)
		for many := range 9 {
			want := whole[8-many:]
			for _, b := range ahead {
				if got := pack.Fix(b, n, many); !bytes.Equal(got, joined(b, want)) {
					t.Fatalf("Fix(% x, %x, %d): % x", b, n, many, got)
				}
			}
			kept := n
			if many < 8 {
				kept = n % (1 << (8 * many))
			}
			for _, b := range behind {
				if got, left, ok := pack.Unfix(joined(want, b), many); got != kept || !bytes.Equal(left, b) || !ok {
					t.Fatalf("Unfix(% x, then % x, %d): %x, % x, %v", want, b, many, got, left, ok)
				}
			}
			for end := range many {
				wantNoFixed(t, want[:end], many)
			}
		}
	}
}

// P3.1: Fix lays nothing, and Unfix finds nothing, if many is not from 0 to 8.
func TestFixAndUnfixOfWrongMany(t *testing.T) {
	for _, many := range []int{math.MinInt, math.MinInt32, -8, -1, 9, 10, 16, 255, 256, math.MaxInt32, 1 << 40, math.MaxInt} {
		for _, b := range ahead {
			if got := pack.Fix(b, 0x0123456789ABCDEF, many); !bytes.Equal(got, b) {
				t.Errorf("Fix(% x, .., %d): % x", b, many, got)
			}
			wantNoFixed(t, b, many)
		}
		wantNoFixed(t, make([]byte, 16), many)
	}
}

// P3.1: nil and empty bytes are the same: none of them are some, and no bytes are enough for none.
func TestNoBytes(t *testing.T) {
	for _, none := range [][]byte{nil, {}, make([]byte, 0, 30)} {
		if got := pack.Put(none, 300); !bytes.Equal(got, []byte{172, 2}) {
			t.Errorf("Put: % x", got)
		}
		if got := pack.Fix(none, 300, 2); !bytes.Equal(got, []byte{1, 44}) {
			t.Errorf("Fix: % x", got)
		}
		if got := pack.Fix(none, 300, 0); len(got) != 0 {
			t.Errorf("Fix of 0: % x", got)
		}
		if n, left, ok := pack.Unfix(none, 0); n != 0 || len(left) != 0 || !ok {
			t.Errorf("Unfix of 0: %d, % x, %v", n, left, ok)
		}
		wantNoNumber(t, none)
		wantNoFixed(t, none, 1)
		wantNoFixed(t, none, 8)
	}
}

// R4: what is lent is not changed, its spare room neither, and what is answered shares no memory with it.
func TestLentBytesStay(t *testing.T) {
	for room := range 25 {
		for _, start := range ahead {
			b, unchanged := lent(t, start, room)
			for _, n := range []uint64{0, 300, math.MaxUint64} {
				scribble(pack.Put(b, n))
				for _, many := range []int{-1, 0, 1, 5, 8, 9} {
					scribble(pack.Fix(b, n, many))
				}
			}
			unchanged()
		}
		for _, tail := range behind {
			for _, n := range []uint64{0, 300, math.MaxUint64} {
				b, unchanged := lent(t, joined(byWords(n), tail), room)
				_, left, _ := pack.Get(b)
				scribble(left)
				for many := range 9 {
					_, left, _ := pack.Unfix(b, many)
					scribble(left)
				}
				unchanged()
			}
		}
	}
}

// R4: two answers share no memory with one another.
func TestAnswersStandAlone(t *testing.T) {
	b := make([]byte, 1, 40)
	answers := [][]byte{
		pack.Put(b, 300), pack.Put(b, 5), pack.Fix(b, 77, 4), pack.Fix(b, 78, 4), pack.Fix(b, 78, 0), pack.Fix(b, 78, 9),
	}
	in := []byte{1, 2, 3}
	_, got, _ := pack.Get(in)
	_, again, _ := pack.Get(in)
	_, fixed, _ := pack.Unfix(in, 1)
	_, more, _ := pack.Unfix(in, 0)
	answers = append(answers, got, again, fixed, more)
	before := make([][]byte, len(answers))
	for i, one := range answers {
		before[i] = bytes.Clone(one)
	}
	for i, one := range answers {
		if !bytes.Equal(one, before[i]) {
			t.Errorf("the %d-th: % x, not % x", i, one, before[i])
		}
		scribble(one)
	}
}

// R5: what is told hangs on the arguments alone, from several goroutines at one time too.
func TestAnswersHangOnTheArgumentsAlone(t *testing.T) {
	shared := make([]byte, 3, 50)
	numbers := edges()
	var all sync.WaitGroup
	for range 8 {
		all.Go(func() {
			for _, n := range numbers {
				put, fixed := pack.Put(shared, n), pack.Fix(shared, n, 8)
				if !bytes.Equal(put, slices.Concat(shared, byWords(n))) || !bytes.Equal(fixed, binary.BigEndian.AppendUint64(make([]byte, 3), n)) {
					t.Errorf("%d: % x, % x", n, put, fixed)
				}
			}
		})
	}
	all.Wait()
}

// P3.1: of any bytes Get tells what Put lays, and Unfix what Fix lays.
func FuzzGetAndUnfix(f *testing.F) {
	f.Add([]byte{172, 2, 9}, 2)
	f.Add([]byte{255, 255, 255, 255, 255, 255, 255, 255, 255, 1}, 8)
	f.Add([]byte{128, 0}, 9)
	f.Fuzz(func(t *testing.T, b []byte, many int) {
		checkGet(t, b)
		n, left, ok := pack.Unfix(b, many)
		if want := many >= 0 && many <= 8 && many <= len(b); ok != want {
			t.Fatalf("Unfix(% x, %d): %v", b, many, ok)
		}
		if ok && !bytes.Equal(joined(pack.Fix(nil, n, many), left), b) {
			t.Fatalf("Unfix(% x, %d): %x, % x", b, many, n, left)
		}
	})
}

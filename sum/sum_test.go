package sum_test

import (
	"bytes"
	"hash/crc32"
	"math"
	"slices"
	"strings"
	"sync"
	"testing"

	"scullery/sum"
)

// allOnes is the sum whose bits are all set.
const allOnes = math.MaxUint32

// byBits is the sum as the document words it, bit by bit.
func byBits(b []byte) uint32 {
	register := uint32(allOnes)
	for _, one := range b {
		register ^= uint32(one)
		for range 8 {
			out := register & 1
			register >>= 1
			if out == 1 {
				register ^= 0x82F63B78
			}
		}
	}
	return ^register
}

// mixed are bytes of a short rule: as many as are asked for.
func mixed(many int, seed uint32) []byte {
	out := make([]byte, many)
	for i := range out {
		seed = seed*1664525 + 1013904223
		out[i] = byte(seed >> 24)
	}
	return out
}

// rising are the bytes 0, 1, 2 and so on.
func rising(many int) []byte {
	out := make([]byte, many)
	for i := range out {
		out[i] = byte(i)
	}
	return out
}

// falling are the bytes of rising, the last one first.
func falling(many int) []byte {
	out := rising(many)
	slices.Reverse(out)
	return out
}

// P2.1: sums that are known.
func TestOfKnown(t *testing.T) {
	for _, x := range []struct {
		b    []byte
		want uint32
	}{
		{[]byte("123456789"), 0xE3069283},
		{[]byte("a"), 0xC1D04330},
		{[]byte{0}, 0x527D5351},
		{[]byte{255}, 0xFF000000},
		{make([]byte, 32), 0x8A9136AA},
		{bytes.Repeat([]byte{255}, 32), 0x62A8AB43},
		{rising(32), 0x46DD794E},
		{falling(32), 0x113FDB5C},
		{[]byte{255, 255, 255, 255}, allOnes},
		{[]byte{0xAB, 0x9B, 0xE0, 0x9B}, 0},
	} {
		if got := sum.Of(x.b); got != x.want {
			t.Errorf("Of(% x): %08x, not %08x", x.b, got, x.want)
		}
		if got := sum.More(0, x.b); got != x.want {
			t.Errorf("More(0, % x): %08x, not %08x", x.b, got, x.want)
		}
	}
}

// P2.1: the sum of no bytes is 0, however they are handed in.
func TestOfNothing(t *testing.T) {
	for i, parts := range [][][]byte{nil, {}, {nil}, {{}}, {nil, nil}, {nil, {}, nil}, {{}, {}, {}}} {
		if got := sum.Of(parts...); got != 0 {
			t.Errorf("the %d-th: %08x", i, got)
		}
	}
	if got := sum.Of(); got != 0 {
		t.Errorf("Of(): %08x", got)
	}
}

// P2.1: each byte, behind each other one, as the document words it.
func TestOfEachByte(t *testing.T) {
	for first := range 256 {
		if b := []byte{byte(first)}; sum.Of(b) != byBits(b) {
			t.Fatalf("Of(% x): %08x, not %08x", b, sum.Of(b), byBits(b))
		}
		for second := range 256 {
			if b := []byte{byte(first), byte(second)}; sum.Of(b) != byBits(b) {
				t.Fatalf("Of(% x): %08x, not %08x", b, sum.Of(b), byBits(b))
			}
		}
	}
}

// P2.1: bytes of all lengths about a page's, and of a length far beyond it.
func TestOfByLength(t *testing.T) {
	table := crc32.MakeTable(crc32.Castagnoli)
	for many := range 600 {
		b := mixed(many, uint32(many))
		if got, want := sum.Of(b), byBits(b); got != want || got != crc32.Checksum(b, table) {
			t.Fatalf("of %d bytes: %08x, not %08x", many, got, want)
		}
	}
	if b := mixed(1<<20+3, 1); sum.Of(b) != crc32.Checksum(b, table) {
		t.Errorf("of %d bytes: %08x", len(b), sum.Of(b))
	}
}

// P2.1: it does not matter where parts begin and end.
func TestOfParts(t *testing.T) {
	b := mixed(40, 7)
	want := byBits(b)
	for i := 0; i <= len(b); i++ {
		for j := i; j <= len(b); j++ {
			if got := sum.Of(b[:i], b[i:j], b[j:]); got != want {
				t.Fatalf("cut at %d and %d: %08x, not %08x", i, j, got, want)
			}
			if got := sum.Of(nil, b[:i], []byte{}, b[i:j], nil, b[j:], []byte{}); got != want {
				t.Fatalf("cut at %d and %d, with empty parts: %08x, not %08x", i, j, got, want)
			}
			if got := sum.More(sum.More(sum.Of(b[:i]), b[i:j]), b[j:]); got != want {
				t.Fatalf("More, cut at %d and %d: %08x, not %08x", i, j, got, want)
			}
		}
	}
	if got := sum.Of(slices.Collect(slices.Chunk(b, 1))...); got != want {
		t.Errorf("byte by byte: %08x, not %08x", got, want)
	}
	if got := sum.Of(b, b, b); got != byBits(bytes.Repeat(b, 3)) {
		t.Errorf("the same part three times: %08x", got)
	}
}

// P2.1: the order of parts and of bytes, and zeros at either end, matter.
func TestOfTellsApart(t *testing.T) {
	seen := map[uint32]string{}
	for _, s := range []string{"", "a", "b", "ab", "ba", "\x00", "\x00\x00", "\x00a", "a\x00", "\x00\x00a", "a\x00\x00", "A", "\xff", "\xff\xff", "aa", "aaa"} {
		got := sum.Of([]byte(s))
		if other, found := seen[got]; found {
			t.Errorf("%q and %q: both %08x", s, other, got)
		}
		seen[got] = s
	}
	if a, b := []byte("scul"), []byte("lery"); sum.Of(a, b) == sum.Of(b, a) {
		t.Error("parts the other way round: the same sum")
	}
}

// P2.1: More of no bytes is the sum that it was given.
func TestMoreOfNothing(t *testing.T) {
	for _, from := range []uint32{0, 1, 77, 1 << 31, 0xE3069283, allOnes - 1, allOnes} {
		if sum.More(from, nil) != from || sum.More(from, []byte{}) != from {
			t.Errorf("from %08x: %08x, %08x", from, sum.More(from, nil), sum.More(from, []byte{}))
		}
	}
}

// P2.1: from any sum More goes on as from bytes that have it. Of four bytes there is one of each sum.
func TestMoreFromAnySum(t *testing.T) {
	for _, x := range []struct {
		head string
		from uint32
	}{
		{"", 0},
		{"\xAB\x9B\xE0\x9B", 0},
		{"\xFF\xFF\xFF\xFF", allOnes},
		{"123456789", 0xE3069283},
		{"\x00", 0x527D5351},
		{"\xFF", 0xFF000000},
	} {
		for many := range 70 {
			tail := mixed(many, 3)
			want := byBits(append([]byte(x.head), tail...))
			if got := sum.More(x.from, tail); got != want {
				t.Fatalf("from %08x, %d bytes: %08x, not %08x", x.from, many, got, want)
			}
		}
	}
}

// P2.1: from all ones the register is none, and zeros leave it so.
func TestMoreFromAllOnes(t *testing.T) {
	for many := range 70 {
		if got := sum.More(allOnes, make([]byte, many)); got != allOnes {
			t.Errorf("%d zeros from all ones: %08x", many, got)
		}
	}
	if got := sum.More(allOnes, []byte{1}); got == allOnes {
		t.Error("a one from all ones: nothing changes")
	}
}

// R4: neither the bytes that are lent are changed, nor their spare room, nor the list of parts.
func TestLentBytesStay(t *testing.T) {
	whole := mixed(100, 9)
	before := slices.Clone(whole)
	parts := make([][]byte, 2, 4)
	parts[0], parts[1] = whole[10:20], whole[50:50]
	sum.Of(parts...)
	sum.Of(whole[:0], whole[30:60:60], whole)
	sum.More(5, whole[:30])
	if !bytes.Equal(whole, before) {
		t.Error("the bytes are changed")
	}
	if &parts[0][0] != &whole[10] || len(parts[0]) != 10 || parts[1] == nil || len(parts[1]) != 0 || parts[:4][2] != nil || parts[:4][3] != nil {
		t.Error("the list of parts is changed")
	}
}

// R5: the same bytes have the same sum, whatever was asked ahead, and from several goroutines at one time.
func TestSumsHangOnTheBytesAlone(t *testing.T) {
	b := []byte(strings.Repeat("123456789", 50))
	want := byBits(b)
	var all sync.WaitGroup
	for i := range 8 {
		all.Go(func() {
			for j := range 50 {
				sum.More(uint32(i*j), b[:j])
				if got := sum.Of(b[:j], b[j:]); got != want {
					t.Errorf("cut at %d: %08x, not %08x", j, got, want)
				}
			}
		})
	}
	all.Wait()
}

package head_test

import (
	"bytes"
	"encoding/binary"
	"hash/crc32"
	"math"
	"slices"
	"sync"
	"testing"

	"scullery/api"
	"scullery/head"
)

// filler is what stands in spare room, to see whether somebody writes there.
const filler = 0xEE

// Where the parts of a head stand behind the data, as the document tells.
const (
	atKind  = 0
	atAddr  = 1
	atSeq   = 9
	atGen   = 14
	atZeros = 17
	atSum   = 23
	atLast  = 27
)

// mixed are bytes of a short rule: as many as are asked for.
func mixed(many int, seed uint32) []byte {
	out := make([]byte, many)
	for i := range out {
		seed = seed*1664525 + 1013904223
		out[i] = byte(seed >> 24)
	}
	return out
}

// equal are bytes that are all the same.
func equal(one byte, many int) []byte {
	return bytes.Repeat([]byte{one}, many)
}

// summed answers a raw page with a sum that fits what stands ahead of it.
func summed(raw []byte) []byte {
	out := bytes.Clone(raw)
	sumAt := len(out) - api.HeadSize + atSum
	binary.BigEndian.PutUint32(out[sumAt:], crc32.Checksum(out[:sumAt], crc32.MakeTable(crc32.Castagnoli)))
	return out
}

// byHand lays a head behind data as the document words it, whether it may be or not; of each number its lowest bytes.
func byHand(data []byte, h api.Head) []byte {
	out := bytes.Clone(data)
	out = append(out, byte(h.Kind))
	out = binary.BigEndian.AppendUint64(out, h.Addr)
	out = append(out, binary.BigEndian.AppendUint64(nil, uint64(h.Seq))[3:]...)
	out = append(out, binary.BigEndian.AppendUint32(nil, uint32(h.Gen))[1:]...)
	out = append(out, make([]byte, atLast+1-atZeros)...)
	return summed(out)
}

// laid answers the raw page of a head that may be.
func laid(t *testing.T, data []byte, h api.Head) []byte {
	t.Helper()
	raw, e := head.Lay(data, h)
	if e != nil {
		t.Fatalf("Lay of %d bytes, %+v: %v", len(data), h, e)
	}
	return raw
}

// wantNone fails, if Read tells anything but the state, or another one.
func wantNone(t *testing.T, raw []byte, want int, what string) {
	t.Helper()
	if data, h, state := head.Read(raw); data != nil || h != (api.Head{}) || state != want {
		t.Errorf("%s: Read(% x): % x, %+v, %d, not %d", what, raw, data, h, state, want)
	}
}

// wantInvalid fails, if Lay answers a page, or another error.
func wantInvalid(t *testing.T, data []byte, h api.Head) {
	t.Helper()
	raw, e := head.Lay(data, h)
	wrong, ok := e.(*api.Wrong)
	if raw != nil || !ok || wrong == nil || wrong.Code != api.ErrInvalid {
		t.Errorf("Lay of %d bytes, %+v: % x, %v", len(data), h, raw, e)
	}
}

// wantValid fails, if Read does not tell just that page.
func wantValid(t *testing.T, raw, data []byte, h api.Head) {
	t.Helper()
	if gotData, gotHead, state := head.Read(raw); state != api.Valid || gotHead != h || !bytes.Equal(gotData, data) {
		t.Errorf("Read(% x): % x, %+v, %d, not %+v", raw, gotData, gotHead, state, h)
	}
}

// sizes are all that a page may have, in bytes.
func sizes() []int {
	var out []int
	for size := 128; size <= 256; size++ {
		out = append(out, size)
	}
	return out
}

// heads are ones that may be: each Kind, with the edges of all else.
func heads() []api.Head {
	var out []api.Head
	for _, seq := range []int{1, 2, 255, 256, 0x1112131415, 1<<40 - 2, 1<<40 - 1} {
		for _, gen := range []int{0, 1, 255, 256, 0x212223, 1<<24 - 2, 1<<24 - 1} {
			for _, addr := range []uint64{0, 1, 255, 256, 0x0102030405060708, 1 << 63, math.MaxUint64} {
				out = append(out, api.Head{Kind: 1, Addr: addr, Seq: seq, Gen: gen}, api.Head{Kind: 2, Addr: addr, Seq: seq, Gen: gen})
			}
			out = append(out, api.Head{Kind: 3, Seq: seq, Gen: gen}, api.Head{Kind: 4, Seq: seq, Gen: gen})
		}
	}
	return out
}

// notHeads are ones that may not be, most of them for one reason alone.
func notHeads() []api.Head {
	out := []api.Head{{}, {Kind: -1, Addr: 1, Seq: -1, Gen: -1}}
	for _, kind := range []int{math.MinInt, math.MinInt32, -255, -4, -1, 0, 5, 6, 127, 128, 255, 256, 257, 258, 259, 260, 1<<32 + 1, math.MaxInt} {
		out = append(out, api.Head{Kind: kind, Seq: 1}, api.Head{Kind: kind, Addr: 5, Seq: 9, Gen: 2})
	}
	for _, kind := range []int{3, 4} {
		for _, addr := range []uint64{1, 2, 255, 256, 1 << 32, 1 << 63, math.MaxUint64} {
			out = append(out, api.Head{Kind: kind, Addr: addr, Seq: 1}, api.Head{Kind: kind, Addr: addr, Seq: api.MaxSeq, Gen: api.MaxGen})
		}
	}
	for kind := 1; kind <= 4; kind++ {
		for _, seq := range []int{math.MinInt, -1 << 40, -2, -1, 0, 1 << 40, 1<<40 + 1, 1 << 41, math.MaxInt} {
			out = append(out, api.Head{Kind: kind, Seq: seq}, api.Head{Kind: kind, Seq: seq, Gen: 7})
		}
		for _, gen := range []int{math.MinInt, -1 << 24, -2, -1, 1 << 24, 1<<24 + 1, 1 << 25, 1 << 32, math.MaxInt} {
			out = append(out, api.Head{Kind: kind, Seq: 1, Gen: gen}, api.Head{Kind: kind, Seq: api.MaxSeq, Gen: gen})
		}
	}
	return out
}

// lent answers b with spare room behind it, and a check that neither is changed.
func lent(t *testing.T, b []byte, room int) ([]byte, func()) {
	t.Helper()
	whole := slices.Concat(b, equal(filler, room))
	before := bytes.Clone(whole)
	return whole[:len(b):len(whole)], func() {
		t.Helper()
		if !bytes.Equal(whole, before) {
			t.Errorf("R4: % x, not % x", whole, before)
		}
	}
}

// scribble changes all that was answered, the spare room too.
func scribble(b []byte) {
	all := b[:cap(b)]
	for i := range all {
		all[i] ^= 0x55
	}
}

// P4.1: which heads may be.
func TestMay(t *testing.T) {
	for _, h := range heads() {
		if !head.May(h) {
			t.Errorf("May(%+v): false", h)
		}
	}
	for _, h := range notHeads() {
		if head.May(h) {
			t.Errorf("May(%+v): true", h)
		}
	}
}

// P4.1: each Kind about those that there are, with and without an address.
func TestMayOfEachKind(t *testing.T) {
	for kind := -300; kind <= 1100; kind++ {
		if got, want := head.May(api.Head{Kind: kind, Seq: 1}), kind >= 1 && kind <= 4; got != want {
			t.Errorf("Kind %d, no address: %v", kind, got)
		}
		if got, want := head.May(api.Head{Kind: kind, Addr: 1, Seq: 1}), kind == 1 || kind == 2; got != want {
			t.Errorf("Kind %d, an address: %v", kind, got)
		}
	}
}

// P4.1: a raw page whose bytes are known, each at its place, the highest first.
func TestLayKnown(t *testing.T) {
	data := mixed(200, 3)
	raw := laid(t, data, api.Head{Kind: 2, Addr: 0x0102030405060708, Seq: 0x1112131415, Gen: 0x212223})
	want := slices.Concat(data, []byte{2, 1, 2, 3, 4, 5, 6, 7, 8, 0x11, 0x12, 0x13, 0x14, 0x15, 0x21, 0x22, 0x23, 0, 0, 0, 0, 0, 0})
	sum := crc32.Checksum(want, crc32.MakeTable(crc32.Castagnoli))
	want = append(want, byte(sum>>24), byte(sum>>16), byte(sum>>8), byte(sum), 0)
	if !bytes.Equal(raw, want) {
		t.Errorf("% x, not % x", raw[200:], want[200:])
	}
	for _, x := range []struct {
		data []byte
		h    api.Head
		want []byte
	}{
		{make([]byte, 128), api.Head{Kind: 1, Seq: 1},
			[]byte{1, 0, 0, 0, 0, 0, 0, 0, 0, 0, 0, 0, 0, 1, 0, 0, 0, 0, 0, 0, 0, 0, 0, 0x16, 0xE3, 0x32, 0x75, 0}},
		{equal(255, 256), api.Head{Kind: 1, Addr: math.MaxUint64, Seq: 1<<40 - 1, Gen: 1<<24 - 1},
			[]byte{1, 255, 255, 255, 255, 255, 255, 255, 255, 255, 255, 255, 255, 255, 255, 255, 255, 0, 0, 0, 0, 0, 0, 0x35, 0x4F, 0x87, 0x84, 0}},
		{equal(7, 150), api.Head{Kind: 3, Seq: 256, Gen: 258},
			[]byte{3, 0, 0, 0, 0, 0, 0, 0, 0, 0, 0, 0, 1, 0, 0, 1, 2, 0, 0, 0, 0, 0, 0, 0xC0, 0x8C, 0x3D, 0x0D, 0}},
		{equal(7, 151), api.Head{Kind: 4, Seq: 1 << 32, Gen: 1 << 16},
			[]byte{4, 0, 0, 0, 0, 0, 0, 0, 0, 1, 0, 0, 0, 0, 1, 0, 0, 0, 0, 0, 0, 0, 0, 0x2A, 0xDF, 0xB9, 0x4C, 0}},
	} {
		raw := laid(t, x.data, x.h)
		if !bytes.Equal(raw, slices.Concat(x.data, x.want)) {
			t.Errorf("of %d bytes, %+v: % x, not % x", len(x.data), x.h, raw[len(x.data):], x.want)
		}
		wantValid(t, slices.Concat(x.data, x.want), x.data, x.h)
	}
}

// P4.1: all heads that may be are laid as the document words it, and read back.
func TestLayAndReadOfHeads(t *testing.T) {
	for i, h := range heads() {
		data := mixed(128+i%129, uint32(i))
		raw := laid(t, data, h)
		if !bytes.Equal(raw, byHand(data, h)) {
			t.Errorf("%+v: % x, not % x", h, raw[len(data):], byHand(data, h)[len(data):])
		}
		wantValid(t, raw, data, h)
	}
}

// P4.1: all sizes that data may have, whatever stands in them.
func TestLayAndReadOfSizes(t *testing.T) {
	h := api.Head{Kind: 1, Addr: 5, Seq: 9, Gen: 2}
	for _, size := range sizes() {
		for _, data := range [][]byte{mixed(size, uint32(size)), make([]byte, size), equal(255, size)} {
			raw := laid(t, data, h)
			if len(raw) != size+28 || !bytes.Equal(raw, byHand(data, h)) {
				t.Errorf("of %d bytes: % x", size, raw)
			}
			wantValid(t, raw, data, h)
		}
	}
}

// P4.1: each byte of data, and data that looks like a raw page itself.
func TestLayAndReadOfData(t *testing.T) {
	h := api.Head{Kind: 2, Addr: 77, Seq: 3, Gen: 1}
	for one := range 256 {
		data := equal(byte(one), 128)
		wantValid(t, laid(t, data, h), data, h)
	}
	inner := laid(t, mixed(200, 1), api.Head{Kind: 3, Seq: 8})
	wantValid(t, laid(t, inner, h), inner, h)
}

// P4.1: data of a wrong size is not laid.
func TestLayOfWrongSizes(t *testing.T) {
	for size := range 700 {
		if size >= 128 && size <= 256 {
			continue
		}
		for kind := 1; kind <= 4; kind++ {
			wantInvalid(t, mixed(size, 1), api.Head{Kind: kind, Seq: 1})
		}
	}
	wantInvalid(t, nil, api.Head{Kind: 1, Seq: 1})
	wantInvalid(t, make([]byte, 0, 200), api.Head{Kind: 1, Seq: 1})
	wantInvalid(t, make([]byte, 127, 200), api.Head{Kind: 1, Seq: 1})
	wantInvalid(t, make([]byte, 1<<20), api.Head{Kind: 1, Seq: 1})
}

// P4.1: a head that may not be is not laid, whatever the data.
func TestLayOfWrongHeads(t *testing.T) {
	for _, h := range notHeads() {
		for _, size := range []int{0, 127, 128, 200, 256, 257} {
			wantInvalid(t, mixed(size, 1), h)
		}
	}
}

// P4.1: bytes 255 are an erased page in each size that a raw page has, and torn in all others.
func TestReadOfBlank(t *testing.T) {
	for size := range 700 {
		want := api.Torn
		if size >= 156 && size <= 284 {
			want = api.Erased
		}
		wantNone(t, equal(255, size), want, "blank")
	}
	wantNone(t, equal(255, 1<<20), api.Torn, "blank")
	// The document's example.
	wantNone(t, equal(255, 200), api.Erased, "blank")
}

// P4.1: blank but for one byte, or one bit, is torn.
func TestReadOfNearlyBlank(t *testing.T) {
	for _, size := range []int{156, 200, 284} {
		for at := range size {
			for _, turned := range []byte{1, 2, 4, 8, 16, 32, 64, 128, 255} {
				raw := equal(255, size)
				raw[at] ^= turned
				wantNone(t, raw, api.Torn, "nearly blank")
			}
		}
	}
}

// P4.1: no bytes, too few and too many are torn, also those that begin or end as a raw page does.
func TestReadOfWrongSizes(t *testing.T) {
	wantNone(t, nil, api.Torn, "nil")
	wantNone(t, []byte{}, api.Torn, "none")
	wantNone(t, make([]byte, 0, 200), api.Torn, "none, and room")
	for size := range 700 {
		if size >= 28 && (size < 156 || size > 284) {
			wantNone(t, byHand(mixed(size-28, 1), api.Head{Kind: 1, Seq: 1}), api.Torn, "a wrong size")
		}
		if size < 156 || size > 284 {
			wantNone(t, mixed(size, 5), api.Torn, "a wrong size")
			wantNone(t, make([]byte, size), api.Torn, "a wrong size")
		}
	}
	for _, size := range sizes() {
		raw := laid(t, mixed(size, 7), api.Head{Kind: 1, Addr: 5, Seq: 9, Gen: 2})
		wantNone(t, raw[1:], api.Torn, "without the first byte")
		wantNone(t, raw[:len(raw)-1], api.Torn, "without the last byte")
		wantNone(t, slices.Concat([]byte{0}, raw), api.Torn, "a byte ahead")
		for _, one := range []byte{0, 1, 255} {
			wantNone(t, slices.Concat(raw, []byte{one}), api.Torn, "a byte behind")
		}
	}
}

// P4.1: a page with any one bit or byte another one is torn.
func TestReadOfAnotherByte(t *testing.T) {
	for _, x := range []struct {
		size int
		h    api.Head
	}{
		{128, api.Head{Kind: 1, Addr: 5, Seq: 9, Gen: 2}},
		{200, api.Head{Kind: 2, Seq: 1}},
		{256, api.Head{Kind: 3, Seq: api.MaxSeq, Gen: api.MaxGen}},
		{131, api.Head{Kind: 4, Seq: 3}},
	} {
		raw := laid(t, mixed(x.size, 9), x.h)
		for at := range raw {
			for turned := 1; turned < 256; turned++ {
				raw[at] ^= byte(turned)
				wantNone(t, raw, api.Torn, "another byte")
				raw[at] ^= byte(turned)
			}
		}
		wantValid(t, raw, raw[:x.size], x.h)
	}
}

// P4.1: two bytes in one another's place, and halves of two pages, are torn.
func TestReadOfMixedUpBytes(t *testing.T) {
	h := api.Head{Kind: 1, Addr: 0x0102030405060708, Seq: 0x1112131415, Gen: 0x212223}
	one, other := laid(t, mixed(128, 1), h), laid(t, mixed(128, 1000), api.Head{Kind: 2, Addr: 9, Seq: 8, Gen: 7})
	if one[0] == other[0] {
		t.Fatal("the pages begin alike")
	}
	for at := 1; at < len(one); at++ {
		if one[at] != one[at-1] {
			raw := bytes.Clone(one)
			raw[at], raw[at-1] = raw[at-1], raw[at]
			wantNone(t, raw, api.Torn, "mixed up")
		}
		// Behind the last byte of the sum both pages are the same.
		if at < len(one)-1 {
			wantNone(t, slices.Concat(one[:at], other[at:]), api.Torn, "halves")
			wantNone(t, slices.Concat(other[:at], one[at:]), api.Torn, "halves")
		}
	}
}

// P4.1: one of the six zeros that is none makes a page torn, though the sum fits.
func TestReadOfZerosThatAreNone(t *testing.T) {
	for _, size := range []int{128, 200, 256} {
		raw := laid(t, mixed(size, 4), api.Head{Kind: 1, Addr: 5, Seq: 9, Gen: 2})
		for at := size + atZeros; at < size+atSum; at++ {
			for one := 1; one < 256; one++ {
				other := bytes.Clone(raw)
				other[at] = byte(one)
				wantNone(t, summed(other), api.Torn, "a zero that is none")
			}
		}
		wantValid(t, summed(raw), raw[:size], api.Head{Kind: 1, Addr: 5, Seq: 9, Gen: 2})
	}
}

// P4.1: a last byte that is not 0 makes a page torn, though the sum fits.
func TestReadOfLastBytes(t *testing.T) {
	for _, size := range []int{128, 200, 256} {
		raw := laid(t, mixed(size, 4), api.Head{Kind: 1, Addr: 5, Seq: 9, Gen: 2})
		for one := 1; one < 256; one++ {
			raw[size+atLast] = byte(one)
			wantNone(t, raw, api.Torn, "a last byte")
		}
	}
}

// P4.1: a sum the other way round, turned, or of other bytes, is none.
func TestReadOfWrongSums(t *testing.T) {
	data, h := mixed(128, 6), api.Head{Kind: 1, Addr: 5, Seq: 9, Gen: 2}
	raw := laid(t, data, h)
	sums := raw[len(data)+atSum : len(data)+atLast]
	right := binary.BigEndian.Uint32(sums)
	castagnoli := crc32.MakeTable(crc32.Castagnoli)
	for _, wrong := range []uint32{
		0, math.MaxUint32, ^right, right + 1, right - 1,
		binary.LittleEndian.Uint32(sums),
		crc32.ChecksumIEEE(raw[:len(data)+atSum]),
		crc32.Checksum(data, castagnoli),
		crc32.Checksum(raw[len(data):len(data)+atSum], castagnoli),
		crc32.Checksum(raw[:len(data)+atZeros], castagnoli),
	} {
		binary.BigEndian.PutUint32(sums, wrong)
		wantNone(t, raw, api.Torn, "a wrong sum")
	}
	binary.BigEndian.PutUint32(sums, right)
	wantValid(t, raw, data, h)
}

// P4.1: a sum that fits does not make a head that may not be one that is read.
func TestReadOfWrongHeads(t *testing.T) {
	data := mixed(128, 8)
	for kind := range 256 {
		for _, addr := range []uint64{0, 1, 1 << 63, math.MaxUint64} {
			for _, seq := range []int{0, 1, api.MaxSeq} {
				h := api.Head{Kind: kind, Addr: addr, Seq: seq, Gen: 7}
				if seq > 0 && (kind == 1 || kind == 2 || addr == 0 && (kind == 3 || kind == 4)) {
					wantValid(t, byHand(data, h), data, h)
				} else {
					wantNone(t, byHand(data, h), api.Torn, "a head that may not be")
				}
			}
		}
	}
	// One bit of an address alone, behind pages that have none.
	for bit := range 64 {
		wantNone(t, byHand(data, api.Head{Kind: 3, Addr: 1 << bit, Seq: 1}), api.Torn, "a note with an address")
		wantNone(t, byHand(data, api.Head{Kind: 4, Addr: 1 << bit, Seq: 1}), api.Torn, "a segment with an address")
	}
}

// P4.2: no beginning of a page with bytes 255 behind is one, whatever the page.
func TestBeginningsAreTorn(t *testing.T) {
	for i, h := range heads() {
		size := 128 + i%129
		data := mixed(size, uint32(i))
		if i%5 == 0 {
			data = equal(255, size)
		}
		raw := laid(t, data, h)
		for many := range raw {
			torn := slices.Concat(raw[:many], equal(255, len(raw)-many))
			want := api.Torn
			if bytes.Equal(torn, equal(255, len(raw))) {
				want = api.Erased
			}
			wantNone(t, torn, want, "a beginning")
		}
		wantValid(t, raw, data, h)
	}
}

// endingIn answers data, and a head, whose raw page has a sum that ends in so many bytes 255.
func endingIn(t *testing.T, many int) ([]byte, api.Head) {
	t.Helper()
	data, h := mixed(128, 2), api.Head{Kind: 1, Addr: 5, Seq: 9, Gen: 2}
	raw := laid(t, data, h)
	// The last bytes of the data are tried, until the sum is one that is looked for.
	for n := range uint32(1 << 22) {
		binary.BigEndian.PutUint32(data[124:], n)
		copy(raw, data)
		sum := crc32.Checksum(raw[:128+atSum], crc32.MakeTable(crc32.Castagnoli))
		if want := uint32(1)<<(8*many) - 1; sum&want == want {
			return data, h
		}
	}
	t.Fatal("there is no such sum")
	return nil, api.Head{}
}

// P4.2: though the sum itself ends in bytes 255, the last byte tells that a page is not whole.
func TestBeginningsWhoseSumIsWhole(t *testing.T) {
	for many := 1; many <= 2; many++ {
		data, h := endingIn(t, many)
		raw := laid(t, data, h)
		for behind := 1; behind <= many+1; behind++ {
			torn := slices.Concat(raw[:len(raw)-behind], equal(255, behind))
			if !bytes.Equal(torn[:len(raw)-1], raw[:len(raw)-1]) {
				t.Fatalf("% x", raw[128:])
			}
			wantNone(t, torn, api.Torn, "all but the last byte")
		}
		wantValid(t, raw, data, h)
	}
}

// P4.2: equal bytes are no page, in whatever size.
func TestEqualBytesAreTorn(t *testing.T) {
	for one := range 255 {
		for size := 150; size <= 290; size++ {
			wantNone(t, equal(byte(one), size), api.Torn, "equal bytes")
		}
	}
}

// R2: beside what is no page, and beside an error, all else is zero.
func TestNothingBesideNothing(t *testing.T) {
	if raw, e := head.Lay(mixed(127, 1), api.Head{Kind: 1, Addr: 5, Seq: 9, Gen: 2}); raw != nil || api.Code(e) != api.ErrInvalid {
		t.Errorf("Lay: % x, %v", raw, e)
	}
	raw := laid(t, mixed(128, 1), api.Head{Kind: 1, Addr: 5, Seq: 9, Gen: 2})
	raw[0]++
	if data, h, state := head.Read(raw); data != nil || h != (api.Head{}) || state != api.Torn {
		t.Errorf("Read: % x, %+v, %d", data, h, state)
	}
	if data, h, state := head.Read(equal(255, 156)); data != nil || h != (api.Head{}) || state != api.Erased {
		t.Errorf("Read: % x, %+v, %d", data, h, state)
	}
}

// R4: what is lent is not changed, its spare room neither, and what is answered shares no memory with it.
func TestLentBytesStay(t *testing.T) {
	h := api.Head{Kind: 1, Addr: 5, Seq: 9, Gen: 2}
	for _, room := range []int{0, 1, 27, 28, 29, 100, 600} {
		for _, size := range []int{0, 127, 128, 200, 256, 257} {
			b, unchanged := lent(t, mixed(size, 1), room)
			raw, _ := head.Lay(b, h)
			scribble(raw)
			raw, _ = head.Lay(b, api.Head{})
			scribble(raw)
			unchanged()
		}
		page := laid(t, mixed(200, 1), h)
		for _, whole := range [][]byte{page, page[1:], equal(255, 200), equal(0, 200), nil} {
			b, unchanged := lent(t, whole, room)
			data, _, _ := head.Read(b)
			scribble(data)
			unchanged()
		}
	}
}

// R4: what was answered stays as it was, whatever becomes of what was lent, and of other answers.
func TestAnswersStandAlone(t *testing.T) {
	data, h := mixed(128, 1), api.Head{Kind: 1, Addr: 5, Seq: 9, Gen: 2}
	lentData := make([]byte, 128, 400)
	copy(lentData, data)
	one, other := laid(t, lentData, h), laid(t, lentData, h)
	scribble(lentData)
	scribble(other)
	wantValid(t, one, data, h)

	first, _, _ := head.Read(one)
	second, _, _ := head.Read(one)
	scribble(second)
	scribble(one)
	if !bytes.Equal(first, data) {
		t.Errorf("% x", first)
	}
}

// R5: what is told hangs on the arguments alone, from several goroutines at one time too.
func TestAnswersHangOnTheArgumentsAlone(t *testing.T) {
	shared := make([]byte, 128, 300)
	some := heads()
	page := byHand(shared, some[0])
	var all sync.WaitGroup
	for range 8 {
		all.Go(func() {
			for _, h := range some {
				raw, e := head.Lay(shared, h)
				if e != nil || !bytes.Equal(raw, byHand(shared, h)) {
					t.Errorf("%+v: % x, %v", h, raw, e)
				}
				if _, got, state := head.Read(page); got != some[0] || state != api.Valid {
					t.Errorf("%+v, %d", got, state)
				}
			}
		})
	}
	all.Wait()
}

// P4.1: whatever is read as a page is what Lay lays, and all else is erased or torn.
func FuzzRead(f *testing.F) {
	f.Add(byHand(mixed(128, 1), api.Head{Kind: 1, Addr: 5, Seq: 9, Gen: 2}))
	f.Add(byHand(mixed(256, 1), api.Head{Kind: 3, Addr: 5, Seq: 9}))
	f.Add(equal(255, 200))
	f.Add(equal(0, 200))
	f.Add([]byte{})
	f.Fuzz(func(t *testing.T, b []byte) {
		for _, raw := range [][]byte{b, summedIfItMay(b)} {
			data, h, state := head.Read(raw)
			blank := bytes.Equal(raw, equal(255, len(raw))) && len(raw) >= 156 && len(raw) <= 284
			if blank != (state == api.Erased) {
				t.Fatalf("Read(% x): %d", raw, state)
			}
			if state == api.Valid {
				again, e := head.Lay(data, h)
				if e != nil || !bytes.Equal(again, raw) || !head.May(h) {
					t.Fatalf("Read(% x): % x, %+v", raw, data, h)
				}
			} else if data != nil || h != (api.Head{}) || state != api.Erased && state != api.Torn {
				t.Fatalf("Read(% x): % x, %+v, %d", raw, data, h, state)
			}
		}
	})
}

// summedIfItMay answers bytes with a sum that fits them, if they have room for a head.
func summedIfItMay(b []byte) []byte {
	if len(b) < api.HeadSize {
		return b
	}
	return summed(b)
}

package disk_test

import (
	"bytes"
	"math"
	"slices"
	"strconv"
	"sync"
	"testing"

	"scullery/api"
	"scullery/disk"
)

// The document's limits, in its own numbers.
const mostSectors, leastSize, mostSize = 256, 128, 256

// size is how many bytes a sector of most disks here has.
const size = leastSize

// some are bytes that a number tells; no two sectors of a test are alike, and none is of zeros.
func some(many, seed int) []byte {
	out := make([]byte, many)
	for i := range out {
		out[i] = byte(1 + (i*i+i*(2*seed+1)+11*seed+seed/251+5)%251)
	}
	return out
}

// each are so many bytes that are all one.
func each(many int, by byte) []byte { return bytes.Repeat([]byte{by}, many) }

// zeros are the bytes of a sector that nobody wrote.
func zeros() []byte { return make([]byte, size) }

// made answers a disk, and fails, if there is none.
func made(t *testing.T, sectors, size int, broken ...int) *disk.Disk {
	t.Helper()
	d := disk.New(sectors, size, broken...)
	if d == nil {
		t.Fatalf("New(%d, %d, %v): none", sectors, size, broken)
	}
	return d
}

// wantCode fails, if an error is none of that code: an *api.Wrong, not wrapped, or nil.
func wantCode(t *testing.T, what string, e error, want api.Errno) {
	t.Helper()
	if want == api.OK {
		if e != nil {
			t.Errorf("%s: %v (%T)", what, e, e)
		}
		return
	}
	if w, ok := e.(*api.Wrong); !ok || w == nil || w.Code != want {
		t.Errorf("%s: %v (%T), not %d", what, e, e, want)
	}
}

// wrote writes a sector, and fails, if that does not go well.
func wrote(t *testing.T, d *disk.Disk, at int, b []byte) {
	t.Helper()
	wantCode(t, "Write to "+strconv.Itoa(at), d.Write(at, b), api.OK)
}

// wantSector fails, if a sector is not read as these bytes, or others last.
func wantSector(t *testing.T, what string, d *disk.Disk, at int, last, firm []byte) {
	t.Helper()
	if got, e := d.Read(at); e != nil || !bytes.Equal(got, last) {
		t.Errorf("%s: Read(%d): %v, %v, not %v", what, at, got, e, last)
	}
	if got, e := d.Firm(at); e != nil || !bytes.Equal(got, firm) {
		t.Errorf("%s: Firm(%d): %v, %v, not %v", what, at, got, e, firm)
	}
}

// wantNone fails, if Read, Firm or Write of a sector does not answer that code, with nothing beside it.
func wantNone(t *testing.T, what string, d *disk.Disk, at int, want api.Errno) {
	t.Helper()
	got, e := d.Read(at)
	firm, f := d.Firm(at)
	wantCode(t, what+": Read", e, want)
	wantCode(t, what+": Firm", f, want)
	wantCode(t, what+": Write", d.Write(at, some(d.Size(), 7)), want)
	if len(got) != 0 || len(firm) != 0 {
		t.Errorf("%s: bytes beside an error: %v, %v", what, got, firm)
	}
}

// wantWaiting fails, if the sectors of what waits are not these.
func wantWaiting(t *testing.T, what string, d *disk.Disk, want ...int) {
	t.Helper()
	if got := d.Waiting(); !slices.Equal(got, want) {
		t.Errorf("%s: Waiting: %v, not %v", what, got, want)
	}
}

// wantCrash fails, if not so many writes last over a crash, or anything waits behind it.
func wantCrash(t *testing.T, what string, d *disk.Disk, want int, keep ...bool) {
	t.Helper()
	if got := d.Crash(keep...); got != want {
		t.Errorf("%s: Crash(%v): %d, not %d", what, keep, got, want)
	}
	wantWaiting(t, what+": behind the crash", d)
}

// The document's example.
func TestExample(t *testing.T) {
	for _, sectors := range []int{1, 4, mostSectors} {
		for _, size := range []int{leastSize, 200, mostSize} {
			d := made(t, sectors, size)
			wrote(t, d, 0, some(size, 1))
			wantCrash(t, "the example", d, 0)
			wantSector(t, "the example", d, 0, make([]byte, size), make([]byte, size))
		}
	}
}

// P9.1: the numbers of sectors, and of their bytes, of which there is a disk; Sectors and Size.
func TestNewByNumbers(t *testing.T) {
	if api.MaxSectors != mostSectors || api.MinSize != leastSize || api.MaxSize != mostSize {
		t.Fatal("other limits")
	}
	edges := func(least, most int) []int {
		return []int{math.MinInt, -most, -1, 0, 1, 2, least - 1, least, least + 1, most - 1, most, most + 1, 2 * most, 1 << 20, 1 << 32, 1<<32 + most, math.MaxInt}
	}
	for _, sectors := range edges(1, mostSectors) {
		for _, size := range edges(leastSize, mostSize) {
			want := 1 <= sectors && sectors <= mostSectors && leastSize <= size && size <= mostSize
			for _, broken := range [][]int{nil, {}, {0}, {-1, 1 << 40}} {
				d := disk.New(sectors, size, broken...)
				if (d != nil) != want {
					t.Fatalf("New(%d, %d, %v): %v, not %v", sectors, size, broken, d != nil, want)
				}
				if want && (d.Sectors() != sectors || d.Size() != size) {
					t.Errorf("New(%d, %d, %v): %d, %d", sectors, size, broken, d.Sectors(), d.Size())
				}
			}
		}
	}
	for n := range 600 {
		if d := disk.New(n, leastSize); (d != nil) != (1 <= n && n <= mostSectors) || d != nil && d.Sectors() != n {
			t.Errorf("%d sectors: %v", n, d != nil)
		}
		if d := disk.New(1, n); (d != nil) != (leastSize <= n && n <= mostSize) || d != nil && d.Size() != n {
			t.Errorf("%d bytes: %v", n, d != nil)
		}
	}
}

// P9.1: a new disk: each sector is zeros, those last, and nothing waits.
func TestNewDisk(t *testing.T) {
	for _, sectors := range []int{1, 2, 3, 100, mostSectors - 1, mostSectors} {
		for _, size := range []int{leastSize, leastSize + 1, 200, mostSize} {
			d := made(t, sectors, size)
			for at := range sectors {
				wantSector(t, "new", d, at, make([]byte, size), make([]byte, size))
			}
			wantWaiting(t, "new", d)
		}
	}
}

// P9.1: those of the broken sectors that there are, and no others, are broken; of numbers that are none nothing comes.
func TestBroken(t *testing.T) {
	for _, sectors := range []int{1, 2, 5, mostSectors} {
		last := sectors - 1
		var all []int
		for at := range sectors {
			all = append(all, at)
		}
		for _, broken := range [][]int{
			nil, {}, {0}, {last}, {0, last}, {last, 0}, {0, 0}, {last, last}, {-1}, {sectors}, {-1, sectors}, {sectors, 0, -1}, {-1, last, sectors}, {last / 2},
			{math.MinInt, math.MaxInt, 1 << 32, 1<<32 + last, -last - 1, mostSectors, 2 * mostSectors}, {math.MaxInt, last}, all, slices.Concat(all, all),
			slices.Repeat([]int{last}, 1000), slices.Repeat([]int{-1, sectors}, 1000),
		} {
			what := "broken " + strconv.Itoa(len(broken)) + " of " + strconv.Itoa(sectors)
			d := made(t, sectors, size, broken...)
			if d.Sectors() != sectors || d.Size() != size {
				t.Errorf("%s: %d, %d", what, d.Sectors(), d.Size())
			}
			var writes []int
			for at := range sectors {
				if slices.Contains(broken, at) {
					wantNone(t, what, d, at, api.ErrFail)
					continue
				}
				wantSector(t, what, d, at, zeros(), zeros())
				wrote(t, d, at, some(size, at))
				wantSector(t, what, d, at, some(size, at), zeros())
				writes = append(writes, at)
			}
			wantNone(t, what, d, -1, api.ErrInvalid)
			wantNone(t, what, d, sectors, api.ErrInvalid)
			wantWaiting(t, what, d, writes...)
			wantCode(t, what, d.Flush(), api.OK)
			wantCrash(t, what, d, 0, true)
			for at := range sectors {
				if slices.Contains(broken, at) {
					// It is broken for ever.
					wantNone(t, what+": later", d, at, api.ErrFail)
				} else {
					wantSector(t, what+": later", d, at, some(size, at), some(size, at))
				}
			}
		}
	}
}

// P9.1: which sectors there are.
func TestWhichSector(t *testing.T) {
	for _, sectors := range []int{1, 2, 7, 255, mostSectors} {
		last := sectors - 1
		d := made(t, sectors, size)
		for _, at := range []int{-1, -2, -last, -sectors, sectors, sectors + 1, 2 * sectors, sectors + 255, 1 << 32, 1<<32 + last, 1 << 62, math.MaxInt, math.MinInt} {
			if at != 0 && at != last {
				wantNone(t, "sector "+strconv.Itoa(at)+" of "+strconv.Itoa(sectors), d, at, api.ErrInvalid)
			}
		}
		wantWaiting(t, "none", d)
		for _, at := range []int{0, last} {
			wrote(t, d, at, some(size, 1+at))
			wantSector(t, "the first, the last", d, at, some(size, 1+at), zeros())
		}
		wantWaiting(t, "the first, the last", d, 0, last)
		for at := 1; at < last; at++ {
			wantSector(t, "between", d, at, zeros(), zeros())
		}
	}
}

// P9.1, R6: how many bytes a Write has; of a sector that is not there, and of other bytes than size, also to a broken one, ErrInvalid comes first.
func TestWriteSizes(t *testing.T) {
	for _, size := range []int{leastSize, leastSize + 1, 200, mostSize} {
		for _, many := range []int{0, 1, size - 1, size, size + 1, size + 2, 2 * size, leastSize, mostSize, mostSize + 1, 1 << 16} {
			what := strconv.Itoa(many) + " bytes of " + strconv.Itoa(size)
			d := made(t, 4, size, 2)
			good, broken := api.Errno(api.OK), api.Errno(api.ErrFail)
			if many != size {
				good, broken = api.ErrInvalid, api.ErrInvalid
			}
			b := some(many, 3)
			if many == 0 {
				wantCode(t, what+", nil", d.Write(1, nil), api.ErrInvalid)
				wantCode(t, what+", nil, broken", d.Write(2, nil), api.ErrInvalid)
				wantCode(t, what+", nil, none", d.Write(4, nil), api.ErrInvalid)
			}
			for _, at := range []int{0, 1, 3} {
				wantCode(t, what, d.Write(at, b), good)
			}
			wantCode(t, what+", broken", d.Write(2, b), broken)
			for _, at := range []int{-1, 4, math.MaxInt, math.MinInt} {
				wantCode(t, what+", none", d.Write(at, b), api.ErrInvalid)
			}
			want := make([]byte, size)
			if many == size {
				want = b
				wantWaiting(t, what, d, 0, 1, 3)
			} else {
				wantWaiting(t, what, d)
			}
			for _, at := range []int{0, 1, 3} {
				wantSector(t, what, d, at, want, make([]byte, size))
			}
		}
	}
}

// P9.1: what a sector is read as, and what of it lasts: never written, written once, twice, flushed, written again, behind crashes.
func TestReadAndFirm(t *testing.T) {
	d := made(t, 3, size)
	a, b, c := some(size, 1), some(size, 2), some(size, 3)
	for range 2 {
		wantSector(t, "never written", d, 1, zeros(), zeros())
	}
	wrote(t, d, 1, a)
	for range 2 {
		wantSector(t, "written once", d, 1, a, zeros())
	}
	wrote(t, d, 1, b)
	wantSector(t, "written twice", d, 1, b, zeros())
	wantCode(t, "Flush", d.Flush(), api.OK)
	wantSector(t, "flushed", d, 1, b, b)
	wrote(t, d, 1, c)
	wantSector(t, "written behind a flush", d, 1, c, b)
	wantCrash(t, "lost", d, 0)
	wantSector(t, "lost", d, 1, b, b)
	wrote(t, d, 1, a)
	wantSector(t, "written behind a crash", d, 1, a, b)
	wantCrash(t, "kept", d, 1, true)
	wantSector(t, "kept", d, 1, a, a)
	wrote(t, d, 1, zeros())
	wantSector(t, "zeros written", d, 1, zeros(), a)
	wrote(t, d, 1, a)
	wantSector(t, "as it was", d, 1, a, a)
	wantCode(t, "Flush", d.Flush(), api.OK)
	wantSector(t, "as it was, flushed", d, 1, a, a)
	wrote(t, d, 1, zeros())
	wantCode(t, "Flush", d.Flush(), api.OK)
	wantSector(t, "zeros, flushed", d, 1, zeros(), zeros())
	for _, at := range []int{0, 2} {
		wantSector(t, "beside it", d, at, zeros(), zeros())
	}
}

// P9.1: what waits: nothing, one, the same sector often, several by turns.
func TestWaiting(t *testing.T) {
	d := made(t, 6, size, 4)
	wantWaiting(t, "nothing", d)
	var want []int
	for i, at := range []int{3, 3, 3, 0, 5, 0, 5, 3, 1, 0, 2, 2, 1, 5} {
		wrote(t, d, at, some(size, i))
		want = append(want, at)
		for range 2 {
			wantWaiting(t, "one more", d, want...)
		}
		d.Write(4, some(size, i))
		d.Write(6, some(size, i))
		d.Write(-1, some(size, i))
		d.Write(at, some(size+1, i))
		d.Read(at)
		d.Firm(at)
		wantWaiting(t, "nothing more", d, want...)
	}
	// A write of what stands there waits as any other one.
	got, _ := d.Read(5)
	wrote(t, d, 5, got)
	wantWaiting(t, "as it was", d, append(want, 5)...)
	wantCode(t, "Flush", d.Flush(), api.OK)
	wantWaiting(t, "flushed", d)
	got, _ = d.Read(5)
	wrote(t, d, 5, got)
	wantWaiting(t, "as it lasts", d, 5)
	wantCrash(t, "as it lasts", d, 1, true)
	for range 700 {
		wrote(t, d, 2, got)
	}
	wantWaiting(t, "one sector often", d, slices.Repeat([]int{2}, 700)...)
}

// P9.1: Flush of nothing, one, several of one sector, several of several, twice.
func TestFlush(t *testing.T) {
	for _, writes := range [][]int{nil, {0}, {3}, {1, 1}, {1, 1, 1, 1, 1}, {0, 1, 2, 3}, {3, 2, 1, 0}, {1, 3, 1, 3, 1}, {2, 0, 0, 2}} {
		d := made(t, 4, size)
		want := [][]byte{zeros(), zeros(), zeros(), zeros()}
		for i, at := range writes {
			want[at] = some(size, i)
			wrote(t, d, at, want[at])
		}
		for range 2 {
			wantCode(t, "Flush", d.Flush(), api.OK)
			wantWaiting(t, "flushed", d)
			for at := range want {
				wantSector(t, "flushed", d, at, want[at], want[at])
			}
		}
		// What was flushed lasts over each crash.
		wantCrash(t, "flushed", d, 0)
		wantCrash(t, "flushed", d, 0, false)
		wantCrash(t, "flushed", d, 0, true)
		for at := range want {
			wantSector(t, "flushed, crashed", d, at, want[at], want[at])
		}
	}
}

// keeps are what a crash may keep.
func keeps() [][]bool {
	return [][]bool{
		nil, {}, {true}, {false}, {true, false}, {false, true}, {true, true}, {false, false}, {true, false, false}, {false, true, false}, {false, false, true}, {false, true, true},
		{true, true, true, true, false}, {false, false, false, false, true}, {true, false, true, true, false, false, true}, slices.Repeat([]bool{false, true}, 50),
		append(slices.Repeat([]bool{false}, 99), true), append(slices.Repeat([]bool{true}, 99), false),
	}
}

// P9.1: Crash with nothing waiting loses nothing, whatever it is to keep.
func TestCrashOfNothing(t *testing.T) {
	for _, keep := range keeps() {
		d := made(t, 3, size, 2)
		wantCrash(t, "a new disk", d, 0, keep...)
		wantSector(t, "a new disk", d, 0, zeros(), zeros())
		wrote(t, d, 0, some(size, 1))
		wantCode(t, "Flush", d.Flush(), api.OK)
		for range 3 {
			wantCrash(t, "flushed", d, 0, keep...)
			wantSector(t, "flushed", d, 0, some(size, 1), some(size, 1))
			wantSector(t, "flushed", d, 1, zeros(), zeros())
			wantNone(t, "flushed", d, 2, api.ErrFail)
		}
	}
}

// P9.1: of the writes that wait the i-th one lasts, if keep at i, modulo its number, is true: here each to a sector of its own.
func TestCrashKeeps(t *testing.T) {
	for many := range 12 {
		for _, keep := range keeps() {
			d := made(t, 12, size)
			for at := range 12 {
				wrote(t, d, at, some(size, at))
			}
			wantCode(t, "Flush", d.Flush(), api.OK)
			want := 0
			var lasts [12]bool
			for i := range many {
				// Each third one, so that the order is not that of the sectors.
				wrote(t, d, (i*5+3)%12, some(size, 100+i))
				if len(keep) > 0 && keep[i%len(keep)] {
					want++
					lasts[i] = true
				}
			}
			what := strconv.Itoa(many) + " writes"
			wantCrash(t, what, d, want, keep...)
			for i := range 12 {
				at := (i*5 + 3) % 12
				left := some(size, at)
				if lasts[i] {
					left = some(size, 100+i)
				}
				wantSector(t, what, d, at, left, left)
			}
			wantCrash(t, what+", again", d, 0, true)
		}
	}
}

// P9.1: two writes to one sector, of which only the first, only the last, both, none last; and what was firm ahead of them.
func TestCrashOfTwoWrites(t *testing.T) {
	a, b, c := some(size, 1), some(size, 2), some(size, 3)
	for _, firm := range [][]byte{zeros(), c} {
		for _, x := range []struct {
			keep   []bool
			lasted int
			want   []byte
		}{
			{nil, 0, firm}, {[]bool{false}, 0, firm}, {[]bool{false, false}, 0, firm}, {[]bool{true}, 2, b}, {[]bool{true, true}, 2, b},
			{[]bool{true, false}, 1, a}, {[]bool{false, true}, 1, b}, {[]bool{true, false, true}, 1, a}, {[]bool{false, true, false}, 1, b},
			{[]bool{true, true, false}, 2, b}, {[]bool{false, false, true}, 0, firm},
		} {
			d := made(t, 2, size)
			if !bytes.Equal(firm, zeros()) {
				wrote(t, d, 1, firm)
				wantCode(t, "Flush", d.Flush(), api.OK)
			}
			wrote(t, d, 1, a)
			wrote(t, d, 1, b)
			wantSector(t, "two writes", d, 1, b, firm)
			wantCrash(t, "two writes", d, x.lasted, x.keep...)
			wantSector(t, "two writes, crashed", d, 1, x.want, x.want)
			wantSector(t, "two writes, beside", d, 0, zeros(), zeros())
			wantCode(t, "Flush", d.Flush(), api.OK)
			wantSector(t, "two writes, crashed, flushed", d, 1, x.want, x.want)
		}
	}
}

// P9.1: the first one is counted from the last Flush, or the last Crash, on.
func TestCrashCountsFromZero(t *testing.T) {
	d := made(t, 4, size)
	wrote(t, d, 0, some(size, 1))
	wantCode(t, "Flush", d.Flush(), api.OK)
	wrote(t, d, 1, some(size, 2))
	wrote(t, d, 2, some(size, 3))
	wantCrash(t, "behind a flush", d, 1, true, false)
	wantSector(t, "behind a flush", d, 1, some(size, 2), some(size, 2))
	wantSector(t, "behind a flush", d, 2, zeros(), zeros())
	wrote(t, d, 3, some(size, 4))
	wrote(t, d, 2, some(size, 5))
	wrote(t, d, 3, some(size, 6))
	wantCrash(t, "behind a crash", d, 2, true, true, false)
	wantSector(t, "behind a crash", d, 3, some(size, 4), some(size, 4))
	wantSector(t, "behind a crash", d, 2, some(size, 5), some(size, 5))
	wrote(t, d, 0, some(size, 7))
	wantSector(t, "behind crashes", d, 0, some(size, 7), some(size, 1))
	wantCrash(t, "behind crashes", d, 0, false, true)
	wantSector(t, "behind crashes", d, 0, some(size, 1), some(size, 1))
}

// R1, R3: methods of a nil pointer, and of a disk that nobody made.
func TestNil(t *testing.T) {
	var d *disk.Disk
	for _, at := range []int{-1, 0, 1, mostSectors, math.MaxInt, math.MinInt} {
		for _, b := range [][]byte{nil, {}, some(size, 1), some(mostSize, 1)} {
			wantCode(t, "nil, Write", d.Write(at, b), api.ErrNil)
		}
		wantNone(t, "nil", d, at, api.ErrNil)
	}
	wantCode(t, "nil, Flush", d.Flush(), api.ErrNil)
	wantWaiting(t, "nil", d)
	for _, keep := range keeps() {
		wantCrash(t, "nil", d, 0, keep...)
	}
	if d.Sectors() != 0 || d.Size() != 0 {
		t.Errorf("nil: %d, %d", d.Sectors(), d.Size())
	}

	// No disk that New answered is like this one: it must not panic all the same.
	none := new(disk.Disk)
	for range 2 {
		for _, at := range []int{-1, 0, 1} {
			none.Read(at)
			none.Firm(at)
			none.Write(at, nil)
			none.Write(at, some(size, 1))
		}
		none.Flush()
		none.Waiting()
		none.Crash()
		none.Crash(true)
		none.Sectors()
		none.Size()
	}
}

// R4: broken sectors that are lent stay, their spare room too, and are not kept.
func TestLentToNew(t *testing.T) {
	for _, room := range []int{0, 1, 40} {
		lent := slices.Concat([]int{2, -1, 2, 9}, slices.Repeat([]int{1}, room))
		were := slices.Clone(lent)
		d := made(t, 4, size, lent[:4]...)
		if disk.New(0, size, lent[:4]...) != nil || disk.New(4, mostSize+1, lent[:4]...) != nil {
			t.Error("a disk that may not be")
		}
		if !slices.Equal(lent, were) {
			t.Errorf("changed: %v", lent)
		}
		for i := range lent {
			lent[i] = 3
		}
		for _, at := range []int{0, 1, 3} {
			wantSector(t, "written over", d, at, zeros(), zeros())
			wrote(t, d, at, some(size, at))
		}
		wantNone(t, "written over", d, 2, api.ErrFail)
		wantCode(t, "Flush", d.Flush(), api.OK)
		wantCrash(t, "written over", d, 0, true)
		if !slices.Equal(lent, slices.Repeat([]int{3}, 4+room)) {
			t.Errorf("changed later: %v", lent)
		}
	}
}

// R4: bytes that Write is lent stay, their spare room too, and are not kept, whether they wait or last.
func TestLentToWrite(t *testing.T) {
	for _, room := range []int{0, 1, size, 1000} {
		lent := append(some(size, 1), each(room, 0xEE)...)
		d := made(t, 3, size, 2)
		var were []byte
		// The same bytes are lent for both sectors, and again and again.
		lend := func(seed int) {
			copy(lent, some(size, seed))
			were = bytes.Clone(lent)
			wrote(t, d, 0, lent[:size])
			wrote(t, d, 1, lent[:size])
			wantCode(t, "broken", d.Write(2, lent[:size]), api.ErrFail)
			wantCode(t, "too few", d.Write(1, lent[:size-1]), api.ErrInvalid)
			if !bytes.Equal(lent, were) {
				t.Errorf("changed: %v", lent)
			}
			copy(lent, each(len(lent), 0x33))
		}
		lend(1)
		wantSector(t, "written over while it waits", d, 0, some(size, 1), zeros())
		lend(2)
		wantSector(t, "lent again", d, 1, some(size, 2), zeros())
		wantCrash(t, "written over", d, 2, true, true, false, false)
		wantSector(t, "written over, crashed", d, 0, some(size, 1), some(size, 1))
		wantSector(t, "written over, crashed", d, 1, some(size, 1), some(size, 1))
		lend(3)
		wantCode(t, "Flush", d.Flush(), api.OK)
		copy(lent, each(len(lent), 0x44))
		wantSector(t, "written over, flushed", d, 0, some(size, 3), some(size, 3))
		wantSector(t, "written over, flushed", d, 1, some(size, 3), some(size, 3))
		wrote(t, d, 1, some(size, 4))
		wantSector(t, "beside it", d, 0, some(size, 3), some(size, 3))
		if !bytes.Equal(lent, each(len(lent), 0x44)) {
			t.Errorf("changed later: %v", lent)
		}
	}
}

// R4: what Crash is to keep stays, its spare room too, and is not kept.
func TestLentToCrash(t *testing.T) {
	for _, keep := range keeps() {
		for _, room := range []int{0, 1, 9} {
			for _, filler := range []bool{false, true} {
				lent := slices.Concat(keep, slices.Repeat([]bool{filler}, room))
				were := slices.Clone(lent)
				d := made(t, 2, size)
				for i := range 5 {
					wrote(t, d, i%2, some(size, i))
				}
				d.Crash(lent[:len(keep)]...)
				if !slices.Equal(lent, were) {
					t.Errorf("changed: %v", lent)
				}
				for i := range lent {
					lent[i] = true
				}
				wrote(t, d, 0, some(size, 9))
				wantCrash(t, "a later crash", d, 0)
				if !slices.Equal(lent, slices.Repeat([]bool{true}, len(lent))) {
					t.Errorf("changed later: %v", lent)
				}
			}
		}
	}
}

// R4: what Read and Firm answer shares no memory with the disk, nor with another answer.
func TestBytesStandAlone(t *testing.T) {
	last := [][]byte{zeros(), some(size, 1), some(size, 2), some(size, 3)}
	firm := [][]byte{zeros(), zeros(), some(size, 2), some(size, 4)}
	d := made(t, 4, size)
	wrote(t, d, 2, last[2])
	wrote(t, d, 3, firm[3])
	wantCode(t, "Flush", d.Flush(), api.OK)
	wrote(t, d, 1, last[1])
	wrote(t, d, 3, last[3])
	for at := range last {
		a, _ := d.Read(at)
		b, _ := d.Read(at)
		c, _ := d.Firm(at)
		e, _ := d.Firm(at)
		for i, got := range [][]byte{a, b, c, e} {
			want := last[at]
			if i >= 2 {
				want = firm[at]
			}
			if !bytes.Equal(got, want) {
				t.Errorf("sector %d: the answer %d: %v", at, i, got)
			}
			// Neither the answer is the disk's, nor the room behind it.
			for _, room := range []int{1, size, 4 * size} {
				_ = append(got, each(room, 0x22)...)
			}
			copy(got[:cap(got)], each(cap(got), 0x44))
			for other := range last {
				wantSector(t, "written over", d, other, last[other], firm[other])
			}
		}
	}
	// What was answered stays, whatever is done to the disk.
	a, _ := d.Read(3)
	b, _ := d.Firm(3)
	c, _ := d.Read(0)
	wrote(t, d, 3, some(size, 8))
	wrote(t, d, 0, some(size, 9))
	wantCode(t, "Flush", d.Flush(), api.OK)
	wantCrash(t, "flushed", d, 0)
	if !bytes.Equal(a, last[3]) || !bytes.Equal(b, firm[3]) || !bytes.Equal(c, zeros()) {
		t.Errorf("changed: %v, %v, %v", a, b, c)
	}
	// An answer may be lent again.
	again, _ := d.Read(0)
	wrote(t, d, 1, again)
	copy(again, each(size, 0x55))
	wantSector(t, "lent again", d, 1, some(size, 9), last[1])
	wantSector(t, "lent again", d, 0, some(size, 9), some(size, 9))
}

// R4: what Waiting answers shares no memory with the disk, nor with another answer.
func TestWaitingStandsAlone(t *testing.T) {
	d := made(t, 4, size)
	var want []int
	for i := range 20 {
		wrote(t, d, i%3, some(size, i))
		want = append(want, i%3)
		first, second := d.Waiting(), d.Waiting()
		_ = append(first, 9, 9, 9)
		first = first[:cap(first)]
		for j := range first {
			first[j] = 3
		}
		if !slices.Equal(second, want) {
			t.Errorf("changed: %v", second)
		}
		wantWaiting(t, "written over", d, want...)
	}
	left := d.Waiting()
	wantCrash(t, "written over", d, 10, true, false)
	wantSector(t, "written over", d, 3, zeros(), zeros())
	wantSector(t, "written over", d, 0, some(size, 18), some(size, 18))
	wrote(t, d, 3, some(size, 50))
	if !slices.Equal(left, want) {
		t.Errorf("changed later: %v", left)
	}
	wantWaiting(t, "behind it", d, 3)
}

// R5: a call that answers an error changes nothing that a later call could tell.
func TestErrorsChangeNothing(t *testing.T) {
	d := made(t, 4, size, 2)
	errs := func() {
		t.Helper()
		for _, at := range []int{-1, 4, 5, math.MaxInt, math.MinInt} {
			wantNone(t, "none", d, at, api.ErrInvalid)
		}
		wantNone(t, "broken", d, 2, api.ErrFail)
		for at := -1; at < 5; at++ {
			for _, many := range []int{0, size - 1, size + 1} {
				wantCode(t, "other bytes", d.Write(at, some(many, 77)), api.ErrInvalid)
			}
		}
	}
	errs()
	for at := range 4 {
		if at != 2 {
			wantSector(t, "new", d, at, zeros(), zeros())
		}
	}
	wrote(t, d, 0, some(size, 1))
	errs()
	wrote(t, d, 1, some(size, 2))
	errs()
	wrote(t, d, 0, some(size, 3))
	errs()
	wantWaiting(t, "behind errors", d, 0, 1, 0)
	wantSector(t, "behind errors", d, 0, some(size, 3), zeros())
	wantSector(t, "behind errors", d, 1, some(size, 2), zeros())
	wantCrash(t, "behind errors", d, 2, true, true, false)
	errs()
	wantSector(t, "crashed", d, 0, some(size, 1), some(size, 1))
	wantSector(t, "crashed", d, 1, some(size, 2), some(size, 2))
	wantSector(t, "crashed", d, 3, zeros(), zeros())
	wantCode(t, "Flush", d.Flush(), api.OK)
	wantWaiting(t, "flushed", d)
	if d.Sectors() != 4 || d.Size() != size {
		t.Errorf("%d, %d", d.Sectors(), d.Size())
	}
}

// R5: a disk hangs on what it was told alone: not on other disks, nor on how goroutines run.
func TestDisksStandAlone(t *testing.T) {
	one, other := made(t, 3, size, 1), made(t, 3, size, 2)
	wrote(t, one, 0, some(size, 1))
	wrote(t, other, 0, some(size, 2))
	wrote(t, other, 1, some(size, 3))
	wantWaiting(t, "one", one, 0)
	wantWaiting(t, "other", other, 0, 1)
	wantCode(t, "Flush", one.Flush(), api.OK)
	wantSector(t, "one", one, 0, some(size, 1), some(size, 1))
	wantSector(t, "one", one, 2, zeros(), zeros())
	wantNone(t, "one", one, 1, api.ErrFail)
	wantSector(t, "other", other, 0, some(size, 2), zeros())
	wantCrash(t, "other", other, 1, false, true)
	wantSector(t, "other", other, 0, zeros(), zeros())
	wantNone(t, "other", other, 2, api.ErrFail)
	wantSector(t, "one", one, 0, some(size, 1), some(size, 1))

	var done sync.WaitGroup
	for i := range 8 {
		done.Go(func() {
			for seed := range 5 {
				wander(t, 1000*i+seed, 60)
			}
		})
	}
	done.Wait()
}

// Of size: very many writes wait, and each call still ends within moments, and tells what it is to tell.
func TestMuchWaits(t *testing.T) {
	const many = 1 << 16
	d := made(t, mostSectors, leastSize)
	for i := range many {
		wrote(t, d, i*7%mostSectors, some(size, i))
		if got, e := d.Read(i * 7 % mostSectors); e != nil || !bytes.Equal(got, some(size, i)) {
			t.Fatalf("the write %d: %v, %v", i, got, e)
		}
	}
	wantWaitingMany(t, d, many)
	lasted := many / 2
	wantCrash(t, "much", d, lasted, true, false)
	for at := range mostSectors {
		// The sectors of the writes of even numbers are the even ones; of each the last one lasts.
		want := zeros()
		for i := many - mostSectors; i < many; i++ {
			if i*7%mostSectors == at && i%2 == 0 {
				want = some(size, i)
			}
		}
		wantSector(t, "much", d, at, want, want)
	}
}

// wantWaitingMany fails, if not so many writes wait, each seventh sector behind the one ahead of it.
func wantWaitingMany(t *testing.T, d *disk.Disk, many int) {
	t.Helper()
	got := d.Waiting()
	if len(got) != many {
		t.Fatalf("Waiting: %d of %d", len(got), many)
	}
	for i, at := range got {
		if at != i*7%mostSectors {
			t.Fatalf("Waiting: the %d-th: %d", i, at)
		}
	}
}

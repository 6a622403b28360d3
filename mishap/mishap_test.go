package mishap_test

import (
	"math"
	"slices"
	"sync"
	"testing"

	"scullery/api"
	"scullery/mishap"
)

// The document's limits, in its own numbers.
const lastAt, mostBytes, mostMishaps = 1073741824, 65536, 24

// filler is what stands in spare room, to see whether somebody writes there.
var filler = api.Mishap{At: 0xEE, Kind: 0xEE, Bytes: 0xEE, Fill: 0xEE}

// ones are as many mishaps as are asked for, whose At rises: no two have a field alike, but their Kind.
func ones(many int) []api.Mishap {
	var out []api.Mishap
	for i := range many {
		out = append(out, api.Mishap{At: i*i + 3*i + 2, Kind: 1 + (i/2)%2, Bytes: 37*i + 5, Fill: byte(200 - i)})
	}
	return out
}

// greatest are as many mishaps as are asked for, whose At rises by one: all that they tell is as great as it may be, or near.
func greatest(many int) []api.Mishap {
	var out []api.Mishap
	for i := range many {
		out = append(out, api.Mishap{At: lastAt - (many - 1 - i), Kind: api.Dark, Bytes: mostBytes, Fill: 255})
	}
	return out
}

// unordered are mishaps in no order: some of one number, some of kinds and bytes that may not be.
func unordered() []api.Mishap {
	return []api.Mishap{
		{At: 5, Kind: 1, Bytes: 1, Fill: 1}, {At: 9, Kind: 2, Bytes: 2, Fill: 2}, {At: 5, Kind: 2, Bytes: 3, Fill: 3}, {At: -4, Kind: 1, Bytes: 4},
		{At: 0, Kind: 7, Bytes: -5, Fill: 5}, {At: 9, Kind: 2, Bytes: 2, Fill: 2}, {At: 2, Bytes: 6}, {At: math.MaxInt, Kind: 2, Fill: 7},
		{At: math.MinInt, Kind: 1, Bytes: 8}, {At: -4, Kind: 2, Bytes: math.MaxInt}, {At: lastAt + 1, Kind: -1, Bytes: 9}, {},
	}
}

// lists are ones that may be, and ones that may not.
func lists() [][]api.Mishap {
	return [][]api.Mishap{
		nil, {}, ones(1), ones(2), ones(3), ones(7), ones(mostMishaps), ones(mostMishaps + 1), ones(300), greatest(1), greatest(5), greatest(mostMishaps),
		unordered(), {{}}, {{}, {}}, {ones(1)[0], ones(1)[0]}, reversed(ones(9)), slices.Repeat(unordered(), 40),
	}
}

// reversed answers a copy of mishaps, the last one first.
func reversed(ms []api.Mishap) []api.Mishap {
	out := slices.Clone(ms)
	slices.Reverse(out)
	return out
}

// turned answers a copy of mishaps, with another one at a place.
func turned(ms []api.Mishap, at int, by api.Mishap) []api.Mishap {
	out := slices.Clone(ms)
	out[at] = by
	return out
}

// mayBe tells whether mishaps may be, in the document's words, one behind the other.
func mayBe(ms []api.Mishap) bool {
	good := len(ms) <= mostMishaps
	for _, m := range ms {
		good = good && 1 <= m.At && m.At <= lastAt
		good = good && (m.Kind == 1 || m.Kind == 2)
		good = good && 0 <= m.Bytes && m.Bytes <= mostBytes
	}
	for i := range len(ms) - 1 {
		good = good && ms[i].At < ms[i+1].At
	}
	return good
}

// wantMay fails, if May does not tell this of mishaps, or the document's words would not.
func wantMay(t *testing.T, want bool, what string, ms ...api.Mishap) {
	t.Helper()
	if mayBe(ms) != want {
		t.Fatalf("%s: this test asks for %v: %+v", what, want, ms)
	}
	if got := mishap.May(ms...); got != want {
		t.Errorf("%s: May: %v: %+v", what, got, ms)
	}
}

// wantAt fails, if At does not tell just this one.
func wantAt(t *testing.T, n int, want api.Mishap, ms ...api.Mishap) {
	t.Helper()
	if got, ok := mishap.At(n, ms...); !ok || got != want {
		t.Errorf("At(%d): %+v, %v, not %+v: %+v", n, got, ok, want, ms)
	}
}

// wantNoAt fails, if At tells any one.
func wantNoAt(t *testing.T, n int, ms ...api.Mishap) {
	t.Helper()
	if got, ok := mishap.At(n, ms...); ok || got != (api.Mishap{}) {
		t.Errorf("At(%d): %+v, %v: %+v", n, got, ok, ms)
	}
}

// wantAfter fails, if After does not tell just these.
func wantAfter(t *testing.T, n int, want []api.Mishap, ms ...api.Mishap) {
	t.Helper()
	if got := mishap.After(n, ms...); !slices.Equal(got, want) {
		t.Errorf("After(%d): %+v, not %+v: %+v", n, got, want, ms)
	}
}

// wantDarks fails, if Darks does not count so many.
func wantDarks(t *testing.T, want int, ms ...api.Mishap) {
	t.Helper()
	if got := mishap.Darks(ms...); got != want {
		t.Errorf("Darks: %d, not %d: %+v", got, want, ms)
	}
}

// wantAsWorded fails, if one of the four calls does not tell of mishaps what the document's words say.
func wantAsWorded(t *testing.T, n int, ms ...api.Mishap) {
	t.Helper()
	wantMay(t, mayBe(ms), "as worded", ms...)
	at := slices.IndexFunc(ms, func(m api.Mishap) bool { return m.At == n })
	if at < 0 {
		wantNoAt(t, n, ms...)
	} else {
		wantAt(t, n, ms[at], ms...)
	}
	wantAfter(t, n, slices.DeleteFunc(slices.Clone(ms), func(m api.Mishap) bool { return m.At <= n }), ms...)
	wantDarks(t, len(ms)-len(slices.DeleteFunc(slices.Clone(ms), func(m api.Mishap) bool { return m.Kind == 2 })), ms...)
}

// lent answers mishaps with so much spare room behind, and what fails, if one of them, or the room, is not as it was.
func lent(t *testing.T, whole []api.Mishap, room int) ([]api.Mishap, func()) {
	all := slices.Concat(whole, slices.Repeat([]api.Mishap{filler}, room))
	before := slices.Clone(all)
	return all[:len(whole)], func() {
		t.Helper()
		if !slices.Equal(all, before) {
			t.Errorf("changed, with room for %d: %+v, not %+v", room, all, before)
		}
	}
}

// scribble writes over mishaps, and over their spare room.
func scribble(ms []api.Mishap) {
	ms = ms[:cap(ms)]
	for i := range ms {
		ms[i] = api.Mishap{At: 77 - i, Kind: 77, Bytes: 77, Fill: 77}
	}
}

// The document's example, for each Kind.
func TestExample(t *testing.T) {
	wantAt(t, 3, api.Mishap{At: 3}, api.Mishap{At: 3})
	wantAt(t, 3, api.Mishap{At: 3, Kind: api.Fails}, api.Mishap{At: 3, Kind: api.Fails})
	wantAt(t, 3, api.Mishap{At: 3, Kind: api.Dark}, api.Mishap{At: 3, Kind: api.Dark})
}

// P7.1: there are at most MaxMishaps.
func TestMayByNumber(t *testing.T) {
	if !mishap.May() {
		t.Error("May()")
	}
	wantMay(t, true, "empty", []api.Mishap{}...)
	if mostMishaps != api.MaxMishaps {
		t.Fatalf("MaxMishaps: %d", api.MaxMishaps)
	}
	for many := range 300 {
		wantMay(t, many <= mostMishaps, "so many", ones(many)...)
		wantMay(t, many <= mostMishaps, "so many of the greatest", greatest(many)...)
	}
	wantMay(t, false, "very many", ones(100000)...)
}

// P7.1: At is from 1 to 2^30.
func TestMayByAt(t *testing.T) {
	for _, x := range []struct {
		at   int
		want bool
	}{
		{math.MinInt, false}, {-lastAt, false}, {-2, false}, {-1, false}, {0, false}, {1, true}, {2, true}, {255, true}, {256, true}, {65536, true},
		{lastAt - 1, true}, {lastAt, true}, {lastAt + 1, false}, {lastAt + 2, false}, {math.MaxInt32, false}, {math.MaxInt, false}, {math.MinInt + 1, false},
	} {
		for _, kind := range []int{api.Fails, api.Dark} {
			wantMay(t, x.want, "alone", api.Mishap{At: x.at, Kind: kind, Bytes: 3, Fill: 4})
			wantMay(t, x.want && x.at > 1, "last", api.Mishap{At: 1, Kind: kind}, api.Mishap{At: x.at, Kind: kind})
			wantMay(t, x.want && x.at < lastAt, "first", api.Mishap{At: x.at, Kind: kind}, api.Mishap{At: lastAt, Kind: kind})
		}
	}
	// What no 32 bits hold, wherever int has more of them.
	for shift := 31; shift < 63; shift++ {
		if at := 1 << shift; at > 0 {
			wantMay(t, false, "beyond 32 bits", api.Mishap{At: at, Kind: 1})
			wantMay(t, false, "beyond 32 bits, and 1", api.Mishap{At: at + 1, Kind: 1})
			wantMay(t, false, "beyond 32 bits, and 1, below 0", api.Mishap{At: 1 - at, Kind: 1})
		}
	}
	wantMay(t, false, "0, and 1", api.Mishap{At: 0, Kind: 1}, api.Mishap{At: 1, Kind: 1})
	wantMay(t, false, "below 0, and 1", api.Mishap{At: -1, Kind: 1}, api.Mishap{At: 1, Kind: 1})
	wantMay(t, false, "below 0, and below 0", api.Mishap{At: -2, Kind: 1}, api.Mishap{At: -1, Kind: 1})
	wantMay(t, true, "the greatest two", api.Mishap{At: lastAt - 1, Kind: 1}, api.Mishap{At: lastAt, Kind: 1})
	wantMay(t, false, "the greatest, and one behind it", api.Mishap{At: lastAt, Kind: 1}, api.Mishap{At: lastAt + 1, Kind: 1})
}

// P7.1: At rises, from each one to the next.
func TestMayByRising(t *testing.T) {
	for many := 2; many <= mostMishaps; many++ {
		var ms []api.Mishap
		for i := range many {
			ms = append(ms, api.Mishap{At: 100 + i, Kind: 1 + i%2})
		}
		wantMay(t, true, "by one", ms...)
		wantMay(t, false, "falling", reversed(ms)...)
		for i := range many - 1 {
			alike := slices.Clone(ms)
			alike[i].At = alike[i+1].At
			wantMay(t, false, "the same as the next one", alike...)

			falling := slices.Clone(ms)
			falling[i], falling[i+1] = falling[i+1], falling[i]
			wantMay(t, false, "one more than the next one", falling...)

			apart := slices.Clone(ms)
			for k := i + 1; k < many; k++ {
				apart[k].At += 50
			}
			wantMay(t, true, "far apart", apart...)
			for k := i + 1; k < many; k++ {
				apart[k].At -= 50 + i + 1
			}
			wantMay(t, false, "the same as the first one, behind others", apart...)
		}
	}
}

// P7.1: Kind is Fails or Dark, of each one.
func TestMayByKind(t *testing.T) {
	for _, x := range []struct {
		kind int
		want bool
	}{
		{math.MinInt, false}, {-2, false}, {-1, false}, {0, false}, {api.Fails, true}, {api.Dark, true}, {3, false}, {4, false}, {255, false},
		{256 + 1, false}, {256 + 2, false}, {65536 + 1, false}, {65536 + 2, false}, {math.MaxInt, false}, {math.MaxInt - 1, false},
	} {
		for _, many := range []int{1, 2, 3, mostMishaps} {
			for i, m := range ones(many) {
				m.Kind = x.kind
				wantMay(t, x.want, "another Kind", turned(ones(many), i, m)...)
			}
		}
	}
}

// P7.1: Bytes is from 0 to 2^16, of each one, of each Kind.
func TestMayByBytes(t *testing.T) {
	for _, x := range []struct {
		bytes int
		want  bool
	}{
		{math.MinInt, false}, {-mostBytes, false}, {-2, false}, {-1, false}, {0, true}, {1, true}, {128, true}, {284, true}, {mostBytes - 1, true},
		{mostBytes, true}, {mostBytes + 1, false}, {2 * mostBytes, false}, {math.MaxInt32, false}, {math.MaxInt, false},
	} {
		for _, many := range []int{1, 2, 3, mostMishaps} {
			for i, m := range ones(many) {
				for _, m.Kind = range []int{api.Fails, api.Dark} {
					m.Bytes = x.bytes
					wantMay(t, x.want, "other Bytes", turned(ones(many), i, m)...)
				}
			}
		}
	}
}

// P7.1: any Fill may be, of either Kind, with any Bytes.
func TestMayByFill(t *testing.T) {
	for fill := range 256 {
		for _, kind := range []int{api.Fails, api.Dark} {
			for _, bytes := range []int{0, 1, mostBytes} {
				m := api.Mishap{At: 1, Kind: kind, Bytes: bytes, Fill: byte(fill)}
				wantMay(t, true, "a Fill", m)
				wantMay(t, true, "a Fill, ahead of others", turned(ones(mostMishaps), 0, m)...)
			}
		}
		wantMay(t, false, "a Fill, without a Kind", api.Mishap{At: 1, Fill: byte(fill)})
	}
}

// P7.1: whatever two or three mishaps tell, about the edges, each call tells what the document's words say.
func TestAsWorded(t *testing.T) {
	var all, few []api.Mishap
	for _, at := range []int{-1, 0, 1, 2, 3, lastAt - 1, lastAt, lastAt + 1} {
		for kind := range 4 {
			for _, bytes := range []int{-1, 0, mostBytes, mostBytes + 1} {
				all = append(all, api.Mishap{At: at, Kind: kind, Bytes: bytes, Fill: byte(at * 7)})
			}
		}
	}
	for _, at := range []int{0, 1, 2, 3, lastAt} {
		for kind := 1; kind <= 3; kind++ {
			few = append(few, api.Mishap{At: at, Kind: kind, Bytes: 9 * kind, Fill: byte(at)})
		}
	}
	for _, a := range all {
		wantAsWorded(t, a.At, a)
		for _, b := range all {
			wantAsWorded(t, b.At, a, b)
			wantAsWorded(t, a.At-1, a, b)
		}
	}
	for _, a := range few {
		for _, b := range few {
			for _, c := range few {
				for n := -1; n <= 4; n++ {
					wantAsWorded(t, n, a, b, c)
				}
			}
		}
	}
}

// P7.1: At of each number: it tells every field of the mishap that has it, and nothing of a number that none has.
func TestAt(t *testing.T) {
	for _, many := range []int{1, 2, 3, 7, mostMishaps, mostMishaps + 1, 300} {
		for _, ms := range [][]api.Mishap{ones(many), reversed(ones(many)), greatest(many)} {
			for _, m := range ms {
				wantAt(t, m.At, m, ms...)
			}
			wantNoAt(t, 0, ms...)
			wantNoAt(t, -1, ms...)
			wantNoAt(t, -ms[0].At, ms...)
			wantNoAt(t, lastAt+1, ms...)
			wantNoAt(t, math.MaxInt, ms...)
			wantNoAt(t, math.MinInt, ms...)
		}
		for _, m := range ones(many) {
			wantNoAt(t, m.At-1, ones(many)...)
			wantNoAt(t, m.At+1, ones(many)...)
		}
	}
	for _, n := range []int{math.MinInt, -1, 0, 1, 2, lastAt, math.MaxInt} {
		wantNoAt(t, n)
		wantNoAt(t, n, []api.Mishap{}...)
	}
}

// P7.1: At of mishaps that may not be: the first one of that number.
func TestAtOfWhatMayNotBe(t *testing.T) {
	ms := unordered()
	for _, x := range []struct{ n, want int }{{5, 0}, {9, 1}, {-4, 3}, {0, 4}, {2, 6}, {math.MaxInt, 7}, {math.MinInt, 8}, {lastAt + 1, 10}} {
		wantAt(t, x.n, ms[x.want], ms...)
	}
	for _, n := range []int{-5, -3, -1, 1, 3, 4, 6, 8, 10, lastAt, lastAt + 2, math.MaxInt - 1, math.MinInt + 1} {
		wantNoAt(t, n, ms...)
	}
	first, second := api.Mishap{At: 4, Kind: api.Fails, Bytes: 1, Fill: 2}, api.Mishap{At: 4, Kind: api.Dark, Bytes: 3, Fill: 4}
	wantAt(t, 4, first, first, second)
	wantAt(t, 4, second, second, first)
	for i := range 7 {
		wantAt(t, 4, first, slices.Concat(ones(2), slices.Repeat([]api.Mishap{{At: 7}}, i), []api.Mishap{first, second}, ones(2))...)
	}
	// One whose fields are all 0 is there all the same.
	wantAt(t, 0, api.Mishap{}, api.Mishap{})
	wantNoAt(t, 1, api.Mishap{})
}

// P7.1: After, of numbers below all, of each one's, of one less and one more, and above all.
func TestAfter(t *testing.T) {
	for _, many := range []int{1, 2, 3, 7, mostMishaps, mostMishaps + 1, 300} {
		for _, ms := range [][]api.Mishap{ones(many), greatest(many)} {
			for i, m := range ms {
				wantAfter(t, m.At-1, ms[i:], ms...)
				wantAfter(t, m.At, ms[i+1:], ms...)
			}
			for i, m := range ones(many) {
				wantAfter(t, m.At+1, ones(many)[i+1:], ones(many)...)
			}
			for _, n := range []int{math.MinInt, -lastAt, -1, 0} {
				wantAfter(t, n, ms, ms...)
				wantAfter(t, n, reversed(ms), reversed(ms)...)
			}
			for _, n := range []int{lastAt, lastAt + 1, math.MaxInt} {
				wantAfter(t, n, nil, ms...)
				wantAfter(t, n, nil, reversed(ms)...)
			}
		}
	}
	for _, n := range []int{math.MinInt, -1, 0, 1, 5, lastAt, math.MaxInt} {
		wantAfter(t, n, nil)
		wantAfter(t, n, nil, []api.Mishap{}...)
	}
}

// P7.1: After, of mishaps in any order, whether they may be or not: as they were handed in, those alike too.
func TestAfterInAnyOrder(t *testing.T) {
	ms := unordered()
	for _, x := range []struct {
		n    int
		want []int
	}{
		{math.MinInt, []int{0, 1, 2, 3, 4, 5, 6, 7, 9, 10, 11}}, {-5, []int{0, 1, 2, 3, 4, 5, 6, 7, 9, 10, 11}},
		{-4, []int{0, 1, 2, 4, 5, 6, 7, 10, 11}}, {-1, []int{0, 1, 2, 4, 5, 6, 7, 10, 11}}, {0, []int{0, 1, 2, 5, 6, 7, 10}},
		{1, []int{0, 1, 2, 5, 6, 7, 10}}, {2, []int{0, 1, 2, 5, 7, 10}}, {4, []int{0, 1, 2, 5, 7, 10}}, {5, []int{1, 5, 7, 10}}, {8, []int{1, 5, 7, 10}},
		{9, []int{7, 10}}, {lastAt, []int{7, 10}}, {lastAt + 1, []int{7}}, {math.MaxInt - 1, []int{7}}, {math.MaxInt, nil},
	} {
		var want []api.Mishap
		for _, i := range x.want {
			want = append(want, ms[i])
		}
		wantAfter(t, x.n, want, ms...)
		wantAfter(t, x.n, reversed(want), reversed(ms)...)
	}
	for i, m := range reversed(ones(20)) {
		wantAfter(t, m.At, reversed(ones(20))[:i], reversed(ones(20))...)
	}
}

// P7.1: Darks counts those that are Dark, and no others.
func TestDarks(t *testing.T) {
	wantDarks(t, 0)
	wantDarks(t, 0, []api.Mishap{}...)
	fails, dark := api.Mishap{At: 4, Kind: api.Fails, Bytes: 2, Fill: 2}, api.Mishap{At: 4, Kind: api.Dark}
	for many := range mostMishaps + 2 {
		wantDarks(t, 0, slices.Repeat([]api.Mishap{fails}, many)...)
		wantDarks(t, many, slices.Repeat([]api.Mishap{dark}, many)...)
		wantDarks(t, many, slices.Repeat([]api.Mishap{fails, dark}, many)...)
		wantDarks(t, many, append(slices.Repeat([]api.Mishap{fails}, 9), slices.Repeat([]api.Mishap{dark}, many)...)...)
		wantDarks(t, many, append(slices.Repeat([]api.Mishap{dark}, many), slices.Repeat([]api.Mishap{fails}, 9)...)...)
	}
	for _, kind := range []int{math.MinInt, -2, -1, 0, 3, 4, 6, 256 + 2, 65536 + 2, math.MaxInt} {
		none := api.Mishap{At: 2, Kind: kind, Bytes: 2, Fill: 2}
		wantDarks(t, 0, none)
		wantDarks(t, 2, none, dark, none, dark, fails)
	}
	wantDarks(t, 5, unordered()...)
	wantDarks(t, 100000, slices.Repeat([]api.Mishap{dark}, 100000)...)
	wantDarks(t, 1, api.Mishap{At: -9, Kind: api.Dark, Bytes: -9})
}

// R4: the mishaps that are lent stay, their spare room too, whatever is done with what is answered.
func TestLentStay(t *testing.T) {
	for _, whole := range lists() {
		for _, room := range []int{0, 1, 7, 300} {
			ms, unchanged := lent(t, whole, room)
			mishap.May(ms...)
			mishap.Darks(ms...)
			unchanged()
			for _, n := range []int{math.MinInt, -4, -1, 0, 1, 5, 9, lastAt, math.MaxInt} {
				mishap.At(n, ms...)
				unchanged()
				out := mishap.After(n, ms...)
				scribble(append(out, filler, filler))
				scribble(out)
				unchanged()
			}
		}
	}
}

// R4: what After answered stays as it was, whatever becomes of what was lent, and of other answers.
func TestAnswersStandAlone(t *testing.T) {
	for _, whole := range lists() {
		for _, n := range []int{math.MinInt, -1, 0, 5, 8} {
			want := slices.Clone(mishap.After(n, whole...))
			ms, _ := lent(t, whole, 9)
			first, second, third := mishap.After(n, ms...), mishap.After(n, ms...), mishap.After(2, ms...)
			kept := slices.Clone(third)
			_ = append(first, filler)
			_ = append(second, ones(9)...)
			if !slices.Equal(first, want) || !slices.Equal(second, want) || !slices.Equal(third, kept) {
				t.Errorf("appended to: %+v, %+v, %+v", first, second, third)
			}
			scribble(second)
			scribble(ms)
			if !slices.Equal(first, want) || !slices.Equal(third, kept) {
				t.Errorf("written over: %+v, %+v", first, third)
			}
		}
	}
	ms := ones(5)
	m, ok := mishap.At(ms[2].At, ms...)
	scribble(ms)
	if !ok || m != ones(5)[2] {
		t.Errorf("At: %+v, %v", m, ok)
	}
	for i := range 4 {
		ms := ones(5)
		mishap.After(ms[i].At, ms...)[0] = filler
		if !slices.Equal(ms, ones(5)) {
			t.Errorf("After the %d-th: %+v", i, ms)
		}
	}
}

// R5: what is told hangs on the arguments alone, from several goroutines at one time too.
func TestAnswersHangOnTheArgumentsAlone(t *testing.T) {
	good, bad := ones(mostMishaps), unordered()
	var all sync.WaitGroup
	for range 8 {
		all.Go(func() {
			for range 100 {
				for _, n := range []int{-4, 0, good[3].At, 5, 9} {
					wantAsWorded(t, n, good...)
					wantAsWorded(t, n, bad...)
				}
			}
		})
	}
	all.Wait()
}

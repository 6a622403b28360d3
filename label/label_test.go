package label_test

import (
	"math"
	"strings"
	"testing"
	"unicode"

	"scullery/api"
	"scullery/label"
)

// From firstRune to lastRune there are more runes than there may be: below 0 and beyond the last one, too.
const firstRune, lastRune = rune(-2), unicode.MaxRune + 2

// P1.1: the first and the last rune of each range are good, those beside them are not.
func TestGoodAtTheEdges(t *testing.T) {
	for _, x := range []struct{ first, last rune }{
		{'0', '9'}, {'A', 'Z'}, {'a', 'z'}, {'-', '-'}, {'_', '_'},
		{0xC0, 0xD6}, {0xD8, 0xF6}, {0xF8, 0xFF},
		{0x391, 0x3A1}, {0x3A3, 0x3A9}, {0x3B1, 0x3C9},
		{0x4E00, 0x9FFF},
	} {
		if !label.Good(x.first) || !label.Good(x.last) {
			t.Errorf("%U to %U: not good at its edges", x.first, x.last)
		}
		if label.Good(x.first-1) || label.Good(x.last+1) {
			t.Errorf("%U to %U: good beside its edges", x.first, x.last)
		}
	}
}

// P1.1: no rune but those of the ranges is good.
func TestGoodCount(t *testing.T) {
	const latin, accented, capitals, greek, ideographs = 64, 62, 24, 25, 20992
	many := 0
	for r := firstRune; r <= lastRune; r++ {
		if label.Good(r) {
			many++
		}
	}
	if want := latin + accented + capitals + greek + ideographs; many != want {
		t.Errorf("%d runes are good, not %d", many, want)
	}
	for _, r := range []rune{math.MinInt32, math.MaxInt32, unicode.ReplacementChar, 0} {
		if label.Good(r) {
			t.Errorf("%x is good", r)
		}
	}
}

// P1.1: a name of one rune may be, if the rune is good and is not -.
func TestMayOfOneRune(t *testing.T) {
	for r := rune(0); r <= unicode.MaxRune; r++ {
		want := label.Good(r) && r != '-'
		if label.May(string(r)) != want {
			t.Fatalf("May of %U alone: not %v", r, want)
		}
	}
}

// P1.1: 1 to MaxRunes runes, whatever their bytes.
func TestMayByLength(t *testing.T) {
	for _, one := range []string{"a", "0", "_", "É", "ω", "日"} {
		for many := range 3 * api.MaxRunes {
			want := many >= 1 && many <= api.MaxRunes
			if label.May(strings.Repeat(one, many)) != want {
				t.Errorf("May of %d times %s: not %v", many, one, want)
			}
		}
	}
}

// names that may be, with their columns and their Folds.
var names = []struct {
	name    string
	columns int
	fold    string
}{
	{"a", 1, "a"},
	{"Z", 1, "z"},
	{"_", 1, "_"},
	{"a-b", 3, "a-b"},
	{"a--B", 4, "a--b"},
	{"_-_", 3, "_-_"},
	{"0", 1, "0"},
	{"Cache_01", 8, "cache_01"},
	{"ABCDEFGHIJKL", 12, "abcdefghijkl"},
	{"MNOPQRSTUVWX", 12, "mnopqrstuvwx"},
	{"YZ", 2, "yz"},
	{"ÀÖØÞß", 5, "àöøþß"},
	{"àöøÿ", 4, "àöøÿ"},
	{"ΑΡΣΩ", 4, "αρσω"},
	{"αρςσω", 5, "αρσσω"},
	{"日本", 4, "日本"},
	{"一\u9fff", 4, "一\u9fff"},
	{"a日B", 4, "a日b"},
	{"日日日日日日日日日日日日", 24, "日日日日日日日日日日日日"},
}

// noNames may not be.
var noNames = []string{
	"", "-", "--", "-a", "a-", "-a-", "-日", "日-",
	"a b", " a", "a ", "a.b", "a/b", "a\x00", "a\n", "×", "a÷b", "Ͱ", "\u03a2", "あ", "😀",
	"abcdefghijklm", "日日日日日日日日日日日日日", "abcdefghijkl-", "abcdefghijk-",
	"\xff", "a\xff", "\xffa", "a\xffb", "\xc3", "a\xc3", "\xc3a", "\x80",
	"\xc1\x81", "\xed\xa0\x80", "\xe6\x97", "\xf4\x90\x80\x80", "\ufffd", "a\ufffdb",
}

// P1.1: names that may be, by their columns and Folds.
func TestNames(t *testing.T) {
	for _, x := range names {
		if !label.May(x.name) {
			t.Errorf("%q may not be", x.name)
		}
		if got := label.Columns(x.name); got != x.columns {
			t.Errorf("Columns(%q): %d, not %d", x.name, got, x.columns)
		}
		if got := label.Fold(x.name); got != x.fold {
			t.Errorf("Fold(%q): %q, not %q", x.name, got, x.fold)
		}
		if !label.Same(x.name, x.name) || !label.Same(x.name, x.fold) || !label.Same(x.fold, x.name) {
			t.Errorf("%q is not the same as itself and its Fold", x.name)
		}
	}
}

// P1.1: nothing is told of names that may not be.
func TestNoNames(t *testing.T) {
	for _, s := range noNames {
		if label.May(s) {
			t.Errorf("%q may be", s)
		}
		if got := label.Columns(s); got != 0 {
			t.Errorf("Columns(%q): %d", s, got)
		}
		if got := label.Clip(s, math.MaxInt); got != "" {
			t.Errorf("Clip(%q): %q", s, got)
		}
		if got := label.Fold(s); got != "" {
			t.Errorf("Fold(%q): %q", s, got)
		}
		for _, other := range []string{s, "", "a", "-"} {
			if label.Same(s, other) || label.Same(other, s) {
				t.Errorf("%q and %q are the same", s, other)
			}
		}
	}
}

// P1.1: two columns from U+4E00 to U+9FFF, one elsewhere.
func TestColumnsOfEachRune(t *testing.T) {
	for r := firstRune; r <= lastRune; r++ {
		if !label.Good(r) {
			continue
		}
		want := 3
		if r >= 0x4E00 && r <= 0x9FFF {
			want = 4
		}
		if got := label.Columns("a" + string(r) + "a"); got != want {
			t.Fatalf("Columns with %U: %d, not %d", r, got, want)
		}
	}
}

// P1.1: Clip, with columns that fall ahead of, within and behind wide runes.
func TestClip(t *testing.T) {
	for _, x := range []struct {
		name    string
		columns int
		want    string
	}{
		{"abc", math.MinInt, ""}, {"abc", -1, ""}, {"abc", 0, ""}, {"abc", 1, "a"}, {"abc", 2, "ab"}, {"abc", 3, "abc"}, {"abc", 4, "abc"}, {"abc", math.MaxInt, "abc"},
		{"日本", -1, ""}, {"日本", 0, ""}, {"日本", 1, ""}, {"日本", 2, "日"}, {"日本", 3, "日"}, {"日本", 4, "日本"}, {"日本", 5, "日本"},
		{"a日b", 1, "a"}, {"a日b", 2, "a"}, {"a日b", 3, "a日"}, {"a日b", 4, "a日b"},
		{"日ab", 1, ""}, {"日ab", 3, "日a"},
		{"Éς", 1, "É"}, {"Éς", 2, "Éς"},
		{"a-b", 2, "a-"},
		{"abcdefghijkl", 11, "abcdefghijk"}, {"abcdefghijkl", 12, "abcdefghijkl"},
		{"日日日日日日日日日日日日", 23, "日日日日日日日日日日日"},
	} {
		if got := label.Clip(x.name, x.columns); got != x.want {
			t.Errorf("Clip(%q, %d): %q, not %q", x.name, x.columns, got, x.want)
		}
	}
}

// P1.1: Fold of each good rune is its small letter, and sigma of the final sigma.
func TestFoldOfEachRune(t *testing.T) {
	for r := firstRune; r <= lastRune; r++ {
		if !label.Good(r) {
			continue
		}
		want := unicode.ToLower(r)
		if r == 'ς' {
			want = 'σ'
		}
		if got := label.Fold("a" + string(r) + "a"); got != "a"+string(want)+"a" {
			t.Fatalf("Fold with %U: %q", r, got)
		}
	}
}

// P1.1: Same tells names apart that only look alike, and great letters from small ones never.
func TestSame(t *testing.T) {
	for _, x := range []struct {
		a, b string
		want bool
	}{
		{"Cache", "cACHE", true}, {"ΣΑΣ", "σας", true}, {"ς", "Σ", true}, {"É", "é", true},
		{"a", "b", false}, {"a", "aa", false}, {"a-b", "a_b", false}, {"A", "Α", false}, {"ß", "ss", false}, {"ÿ", "y", false},
		{"日", "日", true}, {"日", "本", false},
	} {
		if label.Same(x.a, x.b) != x.want || label.Same(x.b, x.a) != x.want {
			t.Errorf("Same(%q, %q): not %v", x.a, x.b, x.want)
		}
	}
}

// P1.2: numbers and their texts, both ways.
func TestHexAndNumber(t *testing.T) {
	for _, x := range []struct {
		n    uint64
		text string
	}{
		{0, "0x0"}, {1, "0x1"}, {9, "0x9"}, {10, "0xa"}, {15, "0xf"}, {16, "0x10"}, {255, "0xff"}, {256, "0x100"},
		{0x0123456789ABCDEF, "0x123456789abcdef"},
		{math.MaxInt64, "0x7fffffffffffffff"}, {1 << 63, "0x8000000000000000"},
		{math.MaxUint64 - 1, "0xfffffffffffffffe"}, {math.MaxUint64, "0xffffffffffffffff"},
	} {
		if got := label.Hex(x.n); got != x.text {
			t.Errorf("Hex(%d): %s, not %s", x.n, got, x.text)
		}
		if got, ok := label.Number(x.text); got != x.n || !ok {
			t.Errorf("Number(%s): %d, %v", x.text, got, ok)
		}
	}
}

// P1.2: beside each power of two, Number gives back what Hex was given.
func TestNumberOfHex(t *testing.T) {
	for shift := range 64 {
		power := uint64(1) << shift
		for _, n := range []uint64{power - 1, power, power + 1} {
			if got, ok := label.Number(label.Hex(n)); got != n || !ok {
				t.Errorf("Number(Hex(%d)): %d, %v", n, got, ok)
			}
		}
	}
}

// P1.2: texts that no Hex gives.
func TestNoNumbers(t *testing.T) {
	for _, s := range []string{
		"", "0", "x", "0x", "x0", "1", "ff", "0X0", "0X1", "00x1", "0x0x1",
		"0x00", "0x01", "0x0f", "0x00000000000000001", "0x0ffffffffffffffff",
		"0xA", "0xFF", "0xfF", "0xg", "0xG", "0x/", "0x:", "0x`", "0x@",
		" 0x1", "0x1 ", "0x 1", "0x1\n", "0x1\x00", "0x-1", "-0x1", "0x+1", "+0x1", "0x1_0", "0x_1", "0x1.", "0x1p4",
		"0x10000000000000000", "0xffffffffffffffff0", "0x１", "0x\xff", strings.Repeat("f", 99), "0x" + strings.Repeat("0", 99),
	} {
		if got, ok := label.Number(s); got != 0 || ok {
			t.Errorf("Number(%q): %d, %v", s, got, ok)
		}
	}
}

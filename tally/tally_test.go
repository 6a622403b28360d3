package tally_test

import (
	"math"
	"math/big"
	"strconv"
	"strings"
	"sync"
	"testing"
	"unicode"
	"unicode/utf8"

	"scullery/label"
	"scullery/tally"
)

// The document's numbers.
const (
	most      = 1 << 30 // that a line tells of
	narrowest = 30      // line
	widest    = 200     // line, and bar
)

// The runes of a bar.
const full, empty = '\u2588', '\u00b7'

// wild are numbers at the edges of all that is asked here, and far beyond.
var wild = []int{
	math.MinInt, math.MinInt + 1, math.MinInt / 100, -1 << 32, -1 << 30, -201, -1, 0, 1, 2, 12, 29, 30, 31, 99, 100, 101, 199, 200, 201,
	most - 1, most, most + 1, 1<<31 - 1, 1 << 31, 1 << 32, math.MaxInt / 100, math.MaxInt/100 + 1, 1 << 57, 1 << 58, 1 << 62, math.MaxInt - 1, math.MaxInt,
}

// names that may be, with what of them stands in 12 columns.
var names = []struct{ name, clipped string }{
	{"a", "a           "},
	{"_", "_           "},
	{"0", "0           "},
	{"É", "É           "},
	{"ω", "ω           "},
	{"日", "日          "},
	{"shelf", "shelf       "},
	{"a-b", "a-b         "},
	{"Straße_ΣΩ", "Straße_ΣΩ   "},
	{"abcdefghijk", "abcdefghijk "},
	{"abcdefghijkl", "abcdefghijkl"},
	{"ÀÉΩωßþ_0Zz-9", "ÀÉΩωßþ_0Zz-9"},
	{"日本", "日本        "},
	{"日日日日日", "日日日日日  "},
	{"日日日日日a", "日日日日日a "},
	{"日日日日日日", "日日日日日日"},
	{"日日日日日ab", "日日日日日ab"},
	{"abcdefghij一", "abcdefghij一"},
	{"abcdefghij\u9fff", "abcdefghij\u9fff"},
	{"a\u4e00b\u9fff", "a\u4e00b\u9fff      "},
	// A wide rune that would stand in the twelfth and the thirteenth column.
	{"abcdefghijk日", "abcdefghijk "},
	{"a日日日日日日", "a日日日日日 "},
	{"日日日日日a日", "日日日日日a "},
	{"日日日日日a日b", "日日日日日a "},
	{"a日日日日日日日日日日日", "a日日日日日 "},
	// More than twelve columns, that can be cut at the twelfth.
	{"日日日日日日日", "日日日日日日"},
	{"日日日日日日a", "日日日日日日"},
	{"日日日日日ab日", "日日日日日ab"},
	{"a日b日c日d日e", "a日b日c日d日"},
	{"日日日日日日日日日日日日", "日日日日日日"},
	// What is cut may end with -.
	{"a日日日日日-日", "a日日日日日-"},
}

// noNames may not be.
var noNames = []string{
	"", "-", "-a", "a-", "-日", "日-", "a b", " ", " a", "a ", "a.b", "a\x00", "a\n", "×", "a÷b", "あ", "😀", "e\u0301", "\u03a2", "█", "·", "\u4dff", "\ua000",
	"abcdefghijklm", "日日日日日日日日日日日日日", "abcdefghijkl-",
	"\xff", "a\xff", "\xc3", "\xe6\x97", "\xed\xa0\x80", "\ufffd", "a\ufffdb", strings.Repeat("a", 1<<16),
}

// repeated is a rune, so many times.
func repeated(r rune, many int) string { return strings.Repeat(string(r), many) }

// inFront is a number's digits, with blanks ahead.
func inFront(n int, columns int) string {
	s := strconv.Itoa(n)
	for len(s) < columns {
		s = " " + s
	}
	return s
}

// percentOf is the percents by the document's words, in numbers that have no end.
func percentOf(n, of int) int {
	switch {
	case of < 1, n < 0:
		return 0
	case n >= of:
		return 100
	}
	x := big.NewInt(int64(n))
	x.Mul(x, big.NewInt(100))
	return int(x.Div(x, big.NewInt(int64(of))).Int64())
}

// barOf is a bar by the document's words.
func barOf(percents, columns int) string {
	s := ""
	for i := range columns {
		// The i-th one is full, if at least i + 1 of them are.
		if 100*(i+1) <= columns*percents {
			s += string(full)
		} else {
			s += string(empty)
		}
	}
	return s
}

// lineOf is a line by the document's words, of a name that was clipped already.
func lineOf(clipped string, dirty, clean, limit, columns int) string {
	percents := percentOf(dirty, limit)
	return clipped + " " + barOf(percents, columns-narrowest) + " " + inFront(percents, 3) + "% " + inFront(clean, 10) + "+"
}

// wantPercent fails, if the percents are others.
func wantPercent(t *testing.T, n, of, want int) {
	t.Helper()
	if got := tally.Percent(n, of); got != want {
		t.Errorf("Percent(%d, %d): %d, not %d", n, of, got, want)
	}
}

// wantBar fails, if the bar is another one.
func wantBar(t *testing.T, n, of, columns int, want string) {
	t.Helper()
	if got := tally.Bar(n, of, columns); got != want {
		t.Errorf("Bar(%d, %d, %d): %q, not %q", n, of, columns, got, want)
	}
}

// wantLine fails, if the line is another one, or has not as many columns as told.
func wantLine(t *testing.T, name string, dirty, clean, limit, columns int, want string) {
	t.Helper()
	got := tally.Line(name, dirty, clean, limit, columns)
	if got != want {
		t.Errorf("Line(%q, %d, %d, %d, %d): %q, not %q", name, dirty, clean, limit, columns, got, want)
	}
	if has := tally.Columns(got); got != "" && has != columns {
		t.Errorf("Line(%q, %d, %d, %d, %d): %d columns", name, dirty, clean, limit, columns, has)
	}
}

// wantColumns fails, if a text has others.
func wantColumns(t *testing.T, s string, want int) {
	t.Helper()
	if got := tally.Columns(s); got != want {
		t.Errorf("Columns(%q): %d, not %d", s, got, want)
	}
}

// P20.1: the document's example.
func TestExample(t *testing.T) {
	wantBar(t, 1, 2, 4, "██··")
}

// P20.1: Percent, by hand.
func TestPercent(t *testing.T) {
	for _, x := range []struct{ n, of, want int }{
		{0, 1, 0}, {1, 1, 100}, {2, 1, 100}, {-1, 1, 0},
		{0, 2, 0}, {1, 2, 50}, {2, 2, 100}, {3, 2, 100},
		{1, 3, 33}, {2, 3, 66}, {1, 8, 12}, {7, 8, 87},
		{0, 100, 0}, {1, 100, 1}, {99, 100, 99}, {100, 100, 100}, {101, 100, 100},
		{1, 101, 0}, {2, 101, 1}, {100, 101, 99}, {999, 1000, 99}, {9, 1000, 0}, {10, 1000, 1}, {19, 1000, 1},
		// Nothing is a part of nothing, be it how much it may.
		{0, 0, 0}, {1, 0, 0}, {-1, 0, 0}, {math.MaxInt, 0, 0}, {math.MinInt, 0, 0},
		{0, -1, 0}, {1, -1, 0}, {-1, -1, 0}, {-2, -1, 0}, {math.MaxInt, -1, 0}, {math.MinInt, -1, 0},
		{0, math.MinInt, 0}, {-1, math.MinInt, 0}, {math.MinInt, math.MinInt, 0}, {math.MaxInt, math.MinInt, 0},
		{-1, 2, 0}, {-1, 100, 0}, {-100, 100, 0}, {math.MinInt, 1, 0}, {math.MinInt, 100, 0}, {math.MinInt, math.MaxInt, 0}, {-1, math.MaxInt, 0},
		// A hundred times n is more than an int holds.
		{math.MaxInt, math.MaxInt, 100}, {math.MaxInt - 1, math.MaxInt, 99}, {math.MaxInt / 2, math.MaxInt, 49}, {math.MaxInt/2 + 1, math.MaxInt, 50},
		{0, math.MaxInt, 0}, {1, math.MaxInt, 0}, {math.MaxInt / 100, math.MaxInt, 0}, {math.MaxInt/100 + 1, math.MaxInt, 1},
		{math.MaxInt, math.MaxInt - 1, 100}, {math.MaxInt, 1, 100}, {math.MaxInt - 1, math.MaxInt - 1, 100},
		{1<<62 - 1, 1 << 62, 99}, {1 << 61, 1 << 62, 50}, {1 << 62, 1 << 62, 100}, {1<<62 + 1, 1 << 62, 100},
		{1 << 57, 1 << 62, 3}, {1 << 58, 1 << 62, 6}, {most - 1, most, 99}, {most, most, 100}, {1, most, 0},
	} {
		wantPercent(t, x.n, x.of, x.want)
	}
}

// P20.1: Percent, of numbers that lie beside each other, and of all edges, by the document's words.
func TestPercentAsWorded(t *testing.T) {
	for of := -3; of <= 250; of++ {
		for n := -3; n <= 300; n++ {
			wantPercent(t, n, of, percentOf(n, of))
		}
	}
	for _, of := range wild {
		for _, n := range wild {
			wantPercent(t, n, of, percentOf(n, of))
		}
		// One past the greatest number is the least one: that is a number, too.
		for _, n := range []int{0, -1, of / 3, of / 2, of - 2, of - 1, of, of + 1, of + 2} {
			wantPercent(t, n, of, percentOf(n, of))
		}
	}
}

// P20.1: each percent begins where it is whole, and not one ahead.
func TestPercentBegins(t *testing.T) {
	for _, of := range []int{100, 101, 12345, most, math.MaxInt / 100, math.MaxInt/100 + 1, 1 << 58, 1 << 62, math.MaxInt - 1, math.MaxInt} {
		for p := 1; p <= 100; p++ {
			// The least n of which 100 times n is p times of, or more.
			first := big.NewInt(int64(of))
			first.Mul(first, big.NewInt(int64(p)))
			first.Add(first, big.NewInt(99))
			n := int(first.Div(first, big.NewInt(100)).Int64())
			wantPercent(t, n, of, p)
			wantPercent(t, n-1, of, p-1)
		}
	}
}

// P20.1: Bar, by hand.
func TestBar(t *testing.T) {
	for _, x := range []struct {
		n, of, columns int
		want           string
	}{
		{0, 2, 3, "···"}, {2, 2, 3, "███"}, {3, 2, 3, "███"}, {-1, 2, 3, "···"}, {1, 0, 3, "···"}, {1, -1, 3, "···"}, {0, 0, 3, "···"},
		{0, 1, 1, "·"}, {1, 1, 1, "█"}, {99, 100, 1, "·"}, {100, 100, 1, "█"}, {49, 100, 2, "··"}, {50, 100, 2, "█·"}, {99, 100, 2, "█·"},
		// It goes by the percents, of which a third are 33 only: not by the numbers.
		{1, 3, 3, "···"}, {34, 100, 3, "█··"}, {2, 3, 3, "█··"}, {999, 1000, 3, "██·"},
		{1, 2, 5, "██···"}, {3, 4, 5, "███··"},
		{math.MaxInt - 1, math.MaxInt, 4, "███·"}, {math.MaxInt, math.MaxInt, 4, "████"}, {math.MinInt, math.MaxInt, 2, "··"}, {math.MaxInt, math.MinInt, 2, "··"},
		{1, 2, 0, ""}, {2, 2, 0, ""}, {0, 0, 0, ""}, {1, 2, -1, ""}, {1, 2, 201, ""}, {0, 2, 201, ""}, {2, 2, 201, ""}, {2, 2, -1, ""},
		{1, 2, math.MinInt, ""}, {1, 2, math.MaxInt, ""}, {2, 2, math.MaxInt, ""}, {2, 2, 1 << 32, ""}, {2, 2, math.MinInt + 4, ""},
		{1, 2, 200, repeated(full, 100) + repeated(empty, 100)},
		{199, 200, 200, repeated(full, 198) + repeated(empty, 2)},
		{200, 200, 200, repeated(full, 200)}, {0, 200, 200, repeated(empty, 200)},
		{1, 100, 99, repeated(empty, 99)}, {1, 100, 100, "█" + repeated(empty, 99)}, {1, 100, 199, "█" + repeated(empty, 198)}, {1, 100, 200, "██" + repeated(empty, 198)},
	} {
		wantBar(t, x.n, x.of, x.columns, x.want)
	}
}

// P20.1: Bar of each percent over each number of columns, and over some that may not be.
func TestBarOfEachPercent(t *testing.T) {
	for columns := -2; columns <= widest+2; columns++ {
		for percents := 0; percents <= 100; percents++ {
			want := ""
			if columns >= 0 && columns <= widest {
				want = barOf(percents, columns)
			}
			wantBar(t, percents, 100, columns, want)
			wantBar(t, 2*percents+1, 201, columns, tally.Bar(percentOf(2*percents+1, 201), 100, columns))
		}
	}
}

// P20.1: so many runes, in UTF-8, and of each of the two so many as the percents say, whatever the numbers are.
func TestBarOfWildNumbers(t *testing.T) {
	for _, n := range wild {
		for _, of := range wild {
			for _, columns := range []int{0, 1, 2, 3, 50, 99, 100, 101, 199, 200} {
				got := tally.Bar(n, of, columns)
				filled := columns * percentOf(n, of) / 100
				if !utf8.ValidString(got) || utf8.RuneCountInString(got) != columns || strings.Count(got, string(full)) != filled || strings.Count(got, string(empty)) != columns-filled {
					t.Errorf("Bar(%d, %d, %d): %q", n, of, columns, got)
				}
				if strings.Contains(got, string(empty)+string(full)) {
					t.Errorf("Bar(%d, %d, %d): %q: the full ones are not ahead", n, of, columns, got)
				}
			}
		}
	}
}

// P20.1: Line, by hand.
func TestLine(t *testing.T) {
	for _, x := range []struct {
		name                         string
		dirty, clean, limit, columns int
		want                         string
	}{
		{"shelf", 1, 7, 2, 34, "shelf        ██··  50%          7+"},
		{"shelf", 0, 0, 2, 34, "shelf        ····   0%          0+"},
		{"shelf", 2, 10, 2, 34, "shelf        ████ 100%         10+"},
		{"shelf", 3, 999999999, 2, 34, "shelf        ████ 100%  999999999+"},
		{"abcdefghijkl", 12, most, 12, 31, "abcdefghijkl █ 100% 1073741824+"},
		{"a", 0, 0, 0, 30, "a               0%          0+"},
		{"a", 9, 1, 100, 30, "a               9%          1+"},
		{"a", 10, 1, 100, 30, "a              10%          1+"},
		{"a", 99, 1, 100, 30, "a              99%          1+"},
		{"a", 100, 1, 100, 30, "a             100%          1+"},
		// Of a limit of 0 nothing is a part.
		{"a", 5, 0, 0, 32, "a            ··   0%          0+"},
		{"a", most, most, 0, 32, "a            ··   0% 1073741824+"},
		{"日日日日日日日", 0, 0, 0, 30, "日日日日日日    0%          0+"},
		{"a日日日日日日", 1, 2, 4, 34, "a日日日日日  █···  25%          2+"},
		{"a日", 0, 0, 5, 30, "a日             0%          0+"},
		{"x", 1, 0, 2, 200, "x            " + repeated(full, 85) + repeated(empty, 85) + "  50%          0+"},
	} {
		wantLine(t, x.name, x.dirty, x.clean, x.limit, x.columns, x.want)
	}
}

// P20.1: each number of a line at its limits, and one past them.
func TestLineAtItsLimits(t *testing.T) {
	numbers := []int{-1, 0, 1, most - 1, most, most + 1}
	for _, dirty := range numbers {
		for _, clean := range numbers {
			for _, limit := range numbers {
				for _, columns := range []int{-1, 0, 29, 30, 31, 199, 200, 201} {
					want := ""
					if min(dirty, clean, limit) >= 0 && max(dirty, clean, limit) <= most && columns >= narrowest && columns <= widest {
						want = lineOf("a日         ", dirty, clean, limit, columns)
					}
					wantLine(t, "a日", dirty, clean, limit, columns, want)
				}
			}
		}
	}
}

// P20.1: each wrong number by itself makes the line empty.
func TestLineOfOneWrongNumber(t *testing.T) {
	for _, wrong := range wild {
		if wrong < 0 || wrong > most {
			wantLine(t, "a", wrong, 1, 2, 40, "")
			wantLine(t, "a", 1, wrong, 2, 40, "")
			wantLine(t, "a", 1, 1, wrong, 40, "")
		}
		if wrong < narrowest || wrong > widest {
			wantLine(t, "a", 1, 1, 2, wrong, "")
		}
	}
}

// P20.1: lines of names, shorter than 12 columns, as long, and longer.
func TestLineOfNames(t *testing.T) {
	for _, x := range names {
		if !label.May(x.name) {
			t.Fatalf("%q may not be", x.name)
		}
		for _, columns := range []int{30, 31, 37, 199, 200} {
			wantLine(t, x.name, 5, 6, 7, columns, lineOf(x.clipped, 5, 6, 7, columns))
			wantLine(t, x.name, 0, most, 1, columns, lineOf(x.clipped, 0, most, 1, columns))
			wantLine(t, x.name, most, 0, 1, columns, lineOf(x.clipped, most, 0, 1, columns))
		}
	}
}

// P20.1: there is no line of a name that may not be.
func TestLineOfNoName(t *testing.T) {
	for _, s := range noNames {
		if label.May(s) {
			t.Fatalf("%q may be", s)
		}
		for _, columns := range []int{29, 30, 80, 200, 201} {
			wantLine(t, s, 1, 1, 2, columns, "")
		}
	}
}

// P20.1: a line of each number of columns, with percents of each number of digits.
func TestLineOfEachWidth(t *testing.T) {
	for columns := narrowest; columns <= widest; columns++ {
		for _, dirty := range []int{0, 1, 9, 10, 33, 50, 99, 100, 101, most} {
			wantLine(t, "日本-1", dirty, 10*dirty%(most+1), 100, columns, lineOf("日本-1      ", dirty, 10*dirty%(most+1), 100, columns))
		}
	}
}

// P20.1: cleans of each number of digits stand in 10 columns.
func TestLineOfEachClean(t *testing.T) {
	for power := 1; power <= most; power *= 10 {
		for _, clean := range []int{power - 1, power, power + 1} {
			wantLine(t, "a", 1, clean, 3, 33, lineOf("a           ", 1, clean, 3, 33))
		}
	}
}

// P20.1: Columns of each rune alone.
func TestColumnsOfEachRune(t *testing.T) {
	for r := rune(0); r <= unicode.MaxRune; r++ {
		want := 1
		if r >= 0x4E00 && r <= 0x9FFF {
			want = 2
		}
		if got := tally.Columns(string(r)); got != want {
			t.Fatalf("Columns of %U: %d, not %d", r, got, want)
		}
	}
}

// P20.1: Columns of bytes that are no UTF-8: each is a rune that range tells.
func TestColumnsOfBytes(t *testing.T) {
	for first := range 256 {
		wantColumns(t, string([]byte{byte(first)}), 1)
		for second := range 256 {
			two := string([]byte{byte(first), byte(second)})
			// No wide rune has two bytes.
			wantColumns(t, two, utf8.RuneCountInString(two))
		}
	}
	for s, want := range map[string]int{
		"\xff": 1, "\xff\xff": 2, "a\xffb": 3, "\xe6": 1, "\xe6\x97": 2, "\xe6\x97\xa5": 2, "\xe6\x97\xa5\xa5": 3, "\xe6\xe6\x97\xa5": 3, "\xe6\x97日": 4, "日\xe6\x97": 4,
		"\xc1\x81": 2, "\xed\xa0\x80": 3, "\xf4\x90\x80\x80": 4, "\xf0\x84\xb8\x80": 4, "\xc0\x80": 2,
		"\ufffd": 1, "\ufffd\ufffd": 2, "\xef\xbf": 2,
	} {
		wantColumns(t, s, want)
	}
}

// P20.1: Columns of texts, be they names or not.
func TestColumns(t *testing.T) {
	for s, want := range map[string]int{
		"": 0, "a": 1, "-": 1, "--": 2, "-a": 2, "a-": 2, "-日-": 4, " ": 1, "  ": 2, "\t": 1, "\n\r\x00": 3,
		"日": 2, "日a": 3, "日 本": 5, "一\u9fff": 4, "\u4dff\u4e00\u9fff\ua000": 6,
		"é": 1, "e\u0301": 2, "日\u0301": 3, "\u0301": 1, "\u200b\u200d\ufe0f": 3, "👩\u200d👩": 3,
		"あ": 1, "ア": 1, "Ａ": 1, "한": 1, "😀": 1, "𠀀": 1, "\uf900": 1, "×÷": 2, "\u03a2": 1, "█·": 2,
		"abcdefghijklm": 13, "日日日日日日日日日日日日日": 26, "abcdefghijklmnopqrstuvwxyz": 26,
	} {
		wantColumns(t, s, want)
	}
	for _, x := range names {
		wantColumns(t, x.name, label.Columns(x.name))
		wantColumns(t, x.clipped, 12)
	}
	wantColumns(t, strings.Repeat("日a\xff-", 1<<18), 5<<18)
}

// P20.1: two texts have together what each has, where no rune is cut.
func TestColumnsOfTwo(t *testing.T) {
	for _, a := range noNames {
		for _, b := range names {
			wantColumns(t, b.name+a+b.name, 2*tally.Columns(b.name)+tally.Columns(a))
		}
	}
}

// R1: none panics, and a line is empty, or as wide as told, whatever is given.
func TestWildNumbers(t *testing.T) {
	for _, a := range wild {
		for _, b := range wild {
			for _, c := range wild {
				tally.Bar(a, b, c)
				for _, name := range []string{"日a", "", "\xff"} {
					s := tally.Line(name, a, b, c, 77)
					right := name == "日a" && min(a, b, c) >= 0 && max(a, b, c) <= most
					if right != (s != "") || right && tally.Columns(s) != 77 {
						t.Errorf("Line(%q, %d, %d, %d, 77): %q", name, a, b, c, s)
					}
				}
				tally.Line("a", a, 1, b, c)
			}
		}
	}
}

// R5: the same is answered of the same, whatever was asked between, by several goroutines at one time.
func TestFromSeveralGoroutines(t *testing.T) {
	var done sync.WaitGroup
	for range 8 {
		done.Go(func() {
			for i := range 200 {
				wantPercent(t, 1, 3, 33)
				wantBar(t, i, 0, 2, "··")
				wantBar(t, 1, 2, 4, "██··")
				wantLine(t, "日本", 1, i, 2, 34, lineOf("日本        ", 1, i, 2, 34))
				wantLine(t, "", 1, i, 2, 34, "")
				wantColumns(t, "日a\xff", 4)
			}
		})
	}
	done.Wait()
}

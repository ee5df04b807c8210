package text_test

import (
	"math"
	"math/big"
	"math/rand"
	"slices"
	"strings"
	"testing"

	"tranter/api"
	"tranter/text"
)

// read is a text's lines, byte by byte; whether it is a text of lines.
func read(t string) ([][]string, bool) {
	var lines [][]string
	var line []string
	var word []byte
	open := false
	for i := 0; i < len(t); i++ {
		b := t[i]
		switch {
		case b >= 33 && b <= 126:
			word = append(word, b)
			open = true
		case (b == 32 || b == 10) && len(word) > 0:
			line = append(line, string(word))
			word = nil
			if b == 10 {
				lines = append(lines, line)
				line = nil
				open = false
			}
		default:
			return nil, false
		}
	}
	return lines, !open
}

// reads holds Lines to what a text is.
func reads(t *testing.T, in string, want [][]string, is bool) {
	t.Helper()
	l, e := text.Lines(in)
	if is && (e != api.OK || !slices.EqualFunc(l, want, slices.Equal)) {
		t.Errorf("Lines(%.60q): %.9q, %v; want %.9q", in, l, e, want)
	}
	if !is && (e != api.ErrForm || len(l) != 0) {
		t.Errorf("Lines(%.60q): %.9q, %v; want none, and ErrForm", in, l, e)
	}
}

// texts tells all texts of so many of these signs at most.
func texts(signs string, most int, told func(s string)) {
	l := []string{""}
	for range most + 1 {
		var longer []string
		for _, s := range l {
			told(s)
			for i := range len(signs) {
				longer = append(longer, s+signs[i:i+1])
			}
		}
		l = longer
	}
}

// P5.1

func TestLines(t *testing.T) {
	for _, c := range []struct {
		in   string
		want [][]string
	}{
		{"", nil},
		{"a\n", [][]string{{"a"}}},
		{"a b\n7\n", [][]string{{"a", "b"}, {"7"}}},
		{"a\na\na\n", [][]string{{"a"}, {"a"}, {"a"}}},
		{"a a a\n", [][]string{{"a", "a", "a"}}},
		{"tranter 1\ndays 5\n", [][]string{{"tranter", "1"}, {"days", "5"}}},
		// All that is a word: no sign from 33 to 126 is otherwise than the others.
		{"! ~\n", [][]string{{"!", "~"}}},
		{"\"a b\"\n", [][]string{{"\"a", "b\""}}},
		{"\\n \\\n", [][]string{{"\\n", "\\"}}},
		{"-1,2;3 007 %20\n", [][]string{{"-1,2;3", "007", "%20"}}},
	} {
		reads(t, c.in, c.want, true)
	}
}

func TestLinesOfNoText(t *testing.T) {
	for _, in := range []string{
		// A line that does not end, behind others or alone.
		"a", "a b", "a\nb", "a\n b", "a\n ", "a\nb c", " ", "  ",
		// A line without words, in front, between others and at the end.
		"\n", "\n\n", "\na\n", "a\n\n", "a\n\nb\n", "a\nb\n\n", " \n", "a\n \n", "a\n \nb\n",
		// A blank too many.
		" a\n", "a \n", "a  b\n", "a   b\n", "a b \n", " a b\n", "a\n b\n", "a \nb\n", "a\nb \n",
		// Other blanks, and other ends of a line.
		"a\tb\n", "\ta\n", "a\t\n", "a\r\n", "\r\n", "a\rb\n", "a\r", "a\vb\n", "a\fb\n", "a\u00a0b\n", "a\u0085b\n", "a\u2028b\n", "a\u3000b\n",
		// Signs that are in no word.
		"\x00\n", "a\x00\n", "a\x00b\n", "\x1f\n", "\x7f\n", "a\x7f\n", "\x80\n", "\xa0\n", "\xff\n", "a\xff\n", "\ufeffa\n", "é\n", "aé\n", "a\u0141\n", "\ufffd\n", "\U0001f600\n", "a\xc3\n", "\xc3 \xa9\n", "\xef\xbc\x91\n",
		"a\n\x00", "a\n\x7f\n", "a\nb\nc \x80\n",
	} {
		reads(t, in, nil, false)
	}
}

func TestLinesOfEachSign(t *testing.T) {
	for b := range 256 {
		w := string([]byte{byte(b)})
		for _, in := range []string{w + "\n", "a" + w + "\n", w + "a\n", "a" + w + "a\n", "x y\na " + w + " a\n", "a\n" + w, w} {
			want, is := read(in)
			reads(t, in, want, is)
		}
	}
}

func TestLinesOfAllShortTexts(t *testing.T) {
	good := 0
	texts("a~ \n\x7f", 7, func(s string) {
		want, is := read(s)
		if is {
			good++
		}
		reads(t, s, want, is)
	})
	if good < 500 {
		t.Error("too few of them are texts of lines to tell anything:", good)
	}
}

func TestLinesOfLongTexts(t *testing.T) {
	word := strings.Repeat("w", 1<<20)
	reads(t, word+"\n", [][]string{{word}}, true)
	reads(t, word, nil, false)
	reads(t, word+" \n", nil, false)
	reads(t, word+"\x80\n", nil, false)
	many := strings.Repeat("a b\n", 1<<18)
	lines := slices.Repeat([][]string{{"a", "b"}}, 1<<18)
	reads(t, many, lines, true)
	reads(t, many+"\n", nil, false)
	reads(t, many+"a", nil, false)
	reads(t, "\n"+many, nil, false)
	wide := strings.Repeat("a ", 1<<19)
	reads(t, wide+"a\n", [][]string{slices.Repeat([]string{"a"}, 1<<19+1)}, true)
	reads(t, wide+"\n", nil, false)
	reads(t, strings.Repeat(" ", 1<<22)+"\n", nil, false)
	reads(t, strings.Repeat("\n", 1<<22), nil, false)
}

func TestLinesAreNewMemory(t *testing.T) {
	const in = "a b\nc d\ne f\n"
	l, _ := text.Lines(in)
	_ = append(l[0], "x")
	_ = append(l[1], "y", "z")
	_ = append(l[:1], []string{"q"})
	l[0][0], l[2] = "o", nil
	if !slices.Equal(l[0], []string{"o", "b"}) || !slices.Equal(l[1], []string{"q"}) {
		t.Error(l)
	}
	reads(t, in, [][]string{{"a", "b"}, {"c", "d"}, {"e", "f"}}, true)
	l, _ = text.Lines(in)
	for i := range l {
		_ = append(l[i], "x", "y", "z")
	}
	if !slices.EqualFunc(l, [][]string{{"a", "b"}, {"c", "d"}, {"e", "f"}}, slices.Equal) {
		t.Error("a line's room is another's:", l)
	}
}

func TestLine(t *testing.T) {
	for _, c := range []struct {
		l    []string
		want string
	}{
		{nil, "\n"}, {[]string{}, "\n"}, {[]string{"a"}, "a\n"}, {[]string{"a", "b"}, "a b\n"}, {[]string{"days", "5", "x"}, "days 5 x\n"},
		// As they are: nothing is looked at.
		{[]string{""}, "\n"}, {[]string{"", ""}, " \n"}, {[]string{"a", ""}, "a \n"}, {[]string{"", "a"}, " a\n"}, {[]string{"", "", ""}, "  \n"},
		{[]string{" "}, " \n"}, {[]string{"a b", "c"}, "a b c\n"}, {[]string{"a\n", "b"}, "a\n b\n"}, {[]string{"\n"}, "\n\n"}, {[]string{"\x00\xff", "é", "\t"}, "\x00\xff é \t\n"},
		{[]string{"%d", "\\n"}, "%d \\n\n"},
	} {
		if got := text.Line(c.l...); got != c.want {
			t.Errorf("Line(%q): %q; want %q", c.l, got, c.want)
		}
	}
}

func TestLineLeavesItsWordsAsTheyAre(t *testing.T) {
	room := []string{"a", "b", "c", "d"}
	if got := text.Line(room[:2]...); got != "a b\n" {
		t.Errorf("%q", got)
	}
	if !slices.Equal(room, []string{"a", "b", "c", "d"}) {
		t.Error(room)
	}
}

// P5.2

// counted is a decimal's number in whole numbers of any size, or MaxNumber; whether it is a decimal.
func counted(w string) (int, bool) {
	n := new(big.Int)
	for i := 0; i < len(w); i++ {
		at := strings.IndexByte("0123456789", w[i])
		if at < 0 {
			return 0, false
		}
		n.Add(n.Mul(n, big.NewInt(10)), big.NewInt(int64(at)))
	}
	// Only the decimal of a number is it to the letter.
	if n.String() != w {
		return 0, false
	}
	if most := big.NewInt(1e18); n.Cmp(most) > 0 {
		n = most
	}
	return int(n.Int64()), true
}

// counts holds Number to what a decimal is.
func counts(t *testing.T, w string, want int, is bool) {
	t.Helper()
	if n, got := text.Number(w); n != want || got != is {
		t.Errorf("Number(%.60q): %d, %v; want %d, %v", w, n, got, want, is)
	}
}

func TestNumber(t *testing.T) {
	const most = 1000000000000000000
	if api.MaxNumber != most {
		t.Error(api.MaxNumber)
	}
	for w, want := range map[string]int{
		"0": 0, "1": 1, "9": 9, "10": 10, "17": 17, "99": 99, "100": 100, "2000": 2000, "1234567890": 1234567890,
		"2147483647": 1<<31 - 1, "2147483648": 1 << 31, "4294967296": 1 << 32,
		"99999999999999999": 99999999999999999, "100000000000000000": 100000000000000000,
		"999999999999999998": most - 2, "999999999999999999": most - 1,
		// What is more than MaxNumber is told as that, whether it fits or not.
		"1000000000000000000": most, "1000000000000000001": most, "1000000000000000009": most, "1844674407370955161": most, "1999999999999999999": most, "9000000000000000000": most,
		"9223372036854775807": most, "9223372036854775808": most, "9999999999999999999": most, "10000000000000000000": most,
		"18446744073709551615": most, "18446744073709551616": most, "18446744073709551617": most, "18446744073709551626": most, "36893488147419103232": most,
		"99999999999999999999": most, "100000000000000000000": most, "184467440737095516160": most, "99999999999999999999999999": most,
		"340282366920938463463374607431768211456": most, "340282366920938463463374607431768211457": most,
	} {
		counts(t, w, want, true)
	}
}

func TestNumberOfNoDecimal(t *testing.T) {
	for _, w := range []string{
		"", "00", "01", "007", "000", "010", "0000000000000000000", "01000000000000000000", "0999999999999999999999",
		"-", "+", "-1", "+1", "-0", "+0", "--1", "1-", "1+", "1-1",
		" ", " 1", "1 ", "1 2", "1\n", "\n1", "\t1", "1\r", "1\x00", "\x001", "\x00",
		"a", "1a", "a1", "1a1", "0x1", "0X1", "0b1", "0o7", "0a", "x", "1e3", "1E3", "1.0", "1.", ".1", "1,000", "1_000", "0_1", "1'000", "1/", "1:", "/", ":", "NaN", "Inf",
		"é", "1é", "\u0661", "1\u0661", "\uff11", "\xff", "1\xff", "\x80", "\xb1", "\u00b2", "\u0130",
		// A wrong sign counts however great the number is ahead of it.
		"1000000000000000000x", "99999999999999999999999999x", "99999999999999999999999999-", "99999999999999999999999999 ",
	} {
		counts(t, w, 0, false)
	}
}

func TestNumberOfEachSign(t *testing.T) {
	for b := range 256 {
		s := string([]byte{byte(b)})
		for _, w := range []string{s, "1" + s, s + "1", "1" + s + "1", "0" + s, s + "0", "1000000000000000000" + s} {
			want, is := counted(w)
			counts(t, w, want, is)
		}
	}
}

func TestNumberOfAllShortWords(t *testing.T) {
	texts("019-/:", 6, func(w string) {
		want, is := counted(w)
		counts(t, w, want, is)
	})
}

func TestNumberOfLongWords(t *testing.T) {
	r := rand.New(rand.NewSource(1))
	for range 20000 {
		w := make([]byte, 1+r.Intn(45))
		for i := range w {
			w[i] = byte('0' + r.Intn(10))
		}
		if r.Intn(9) == 0 {
			w[r.Intn(len(w))] = byte(r.Intn(256))
		}
		want, is := counted(string(w))
		counts(t, string(w), want, is)
	}
	nines := strings.Repeat("9", 1<<20)
	counts(t, nines, 1e18, true)
	counts(t, "1"+strings.Repeat("0", 1<<20), 1e18, true)
	counts(t, "0"+nines, 0, false)
	counts(t, nines+"x", 0, false)
	counts(t, strings.Repeat("0", 1<<20), 0, false)
}

// numbers are those at which a decimal's signs change, and others of all sizes.
func numbers() []int {
	l := []int{math.MinInt, math.MinInt + 1, math.MaxInt - 1, math.MaxInt, math.MinInt32, math.MaxInt32}
	for i, n := 0, 1; i <= 18; i, n = i+1, n*10 {
		l = append(l, n-1, n, n+1, 1-n, -n, -n-1, 9*n, -9*n)
	}
	for i := range 63 {
		l = append(l, 1<<i-1, 1<<i, -1<<i, -1<<i-1)
	}
	for n := range 2500 {
		l = append(l, n, -n)
	}
	r := rand.New(rand.NewSource(2))
	for range 20000 {
		l = append(l, int(r.Uint64())>>r.Intn(64))
	}
	return l
}

func TestDecimal(t *testing.T) {
	for n, want := range map[int]string{
		0: "0", 1: "1", 9: "9", 10: "10", 99: "99", 100: "100", 105: "105", 2000: "2000", -1: "-1", -7: "-7", -9: "-9", -10: "-10", -100: "-100",
		1 << 31: "2147483648", -1 << 31: "-2147483648", 1e18: "1000000000000000000", 1e18 - 1: "999999999999999999", -1e18: "-1000000000000000000",
		math.MaxInt: "9223372036854775807", math.MinInt: "-9223372036854775808", math.MinInt + 1: "-9223372036854775807",
	} {
		if got := text.Decimal(n); got != want {
			t.Errorf("Decimal(%d): %q", n, got)
		}
	}
	for _, n := range numbers() {
		if got, want := text.Decimal(n), big.NewInt(int64(n)).String(); got != want {
			t.Errorf("Decimal(%d): %q", n, got)
		}
	}
}

func TestNumbers(t *testing.T) {
	for _, c := range []struct {
		l    []string
		want []int
		is   bool
	}{
		{nil, nil, true}, {[]string{}, nil, true}, {[]string{"0"}, []int{0}, true}, {[]string{"1", "2"}, []int{1, 2}, true}, {[]string{"2", "1", "2"}, []int{2, 1, 2}, true},
		{[]string{"999999999999999999", "1000000000000000000", "99999999999999999999999999", "3"}, []int{1e18 - 1, 1e18, 1e18, 3}, true},
		{[]string{"1", "x"}, nil, false}, {[]string{"x", "1"}, nil, false}, {[]string{"1", "x", "2"}, nil, false}, {[]string{"x"}, nil, false},
		{[]string{""}, nil, false}, {[]string{"1", ""}, nil, false}, {[]string{"1", "02"}, nil, false}, {[]string{"-1"}, nil, false}, {[]string{"1 2"}, nil, false}, {[]string{"3", "4", "+5"}, nil, false},
	} {
		if got, is := text.Numbers(c.l); is != c.is || !slices.Equal(got, c.want) {
			t.Errorf("Numbers(%q): %v, %v; want %v, %v", c.l, got, is, c.want, c.is)
		}
	}
}

func TestNumbersIsNumberOfEach(t *testing.T) {
	r := rand.New(rand.NewSource(3))
	some := []string{"0", "1", "12", "345", "1000000000000000001", "98765432109876543210", "7", "8", "2147483648"}
	none := []string{"", "00", "x", "-1", "1 "}
	for range 3000 {
		l := make([]string, r.Intn(40))
		for i := range l {
			l[i] = some[r.Intn(len(some))]
			if r.Intn(60) == 0 {
				l[i] = none[r.Intn(len(none))]
			}
		}
		var want []int
		all := true
		for _, w := range l {
			n, is := counted(w)
			want = append(want, n)
			all = all && is
		}
		if !all {
			want = nil
		}
		if got, is := text.Numbers(l); is != all || !slices.Equal(got, want) {
			t.Fatalf("Numbers(%q): %v, %v; want %v, %v", l, got, is, want, all)
		}
	}
}

func TestWords(t *testing.T) {
	for _, c := range []struct {
		l    []int
		want []string
	}{
		{nil, nil}, {[]int{}, nil}, {[]int{0}, []string{"0"}}, {[]int{3, -4}, []string{"3", "-4"}}, {[]int{5, 5, 1}, []string{"5", "5", "1"}},
		{[]int{math.MaxInt, math.MinInt, 1e18}, []string{"9223372036854775807", "-9223372036854775808", "1000000000000000000"}},
	} {
		if got := text.Words(c.l); !slices.Equal(got, c.want) {
			t.Errorf("Words(%v): %q; want %q", c.l, got, c.want)
		}
	}
	l := numbers()
	got := text.Words(l)
	if len(got) != len(l) {
		t.Fatal(len(got), len(l))
	}
	for i, n := range l {
		if got[i] != big.NewInt(int64(n)).String() {
			t.Errorf("Words, %d: %q", n, got[i])
		}
	}
}

func TestListsAreLeftAsTheyAreAndAnsweredAnew(t *testing.T) {
	in := []string{"1", "2", "3", "x"}
	n, _ := text.Numbers(in[:3])
	n[0] = 9
	_ = append(n[:1], 8)
	if again, is := text.Numbers(in[:3]); !is || !slices.Equal(again, []int{1, 2, 3}) || !slices.Equal(in, []string{"1", "2", "3", "x"}) {
		t.Error(again, is, in)
	}
	of := []int{1, 2, 3, 4}
	w := text.Words(of[:3])
	w[0] = "9"
	_ = append(w[:1], "8")
	if again := text.Words(of[:3]); !slices.Equal(again, []string{"1", "2", "3"}) || !slices.Equal(of, []int{1, 2, 3, 4}) {
		t.Error(again, of)
	}
}

// P5.3

// madeWord is a word of any signs that are in some.
func madeWord(r *rand.Rand) string {
	w := make([]byte, 1+r.Intn(1+r.Intn(20)))
	for i := range w {
		w[i] = byte(33 + r.Intn(126-33+1))
	}
	return string(w)
}

func TestLinesAreReadAsTheyAreMade(t *testing.T) {
	r := rand.New(rand.NewSource(4))
	for range 4000 {
		want := make([][]string, r.Intn(12))
		in := ""
		for i := range want {
			for range 1 + r.Intn(8) {
				want[i] = append(want[i], madeWord(r))
			}
			in += text.Line(want[i]...)
		}
		reads(t, in, want, true)
	}
}

func TestWhatIsReadIsMadeAsTheSameText(t *testing.T) {
	texts("a~ \n", 8, func(s string) {
		l, e := text.Lines(s)
		if e != api.OK {
			return
		}
		again := ""
		for _, w := range l {
			again += text.Line(w...)
		}
		if again != s {
			t.Errorf("%q is made as %q", s, again)
		}
	})
}

func TestNumbersAreReadAsTheyAreMade(t *testing.T) {
	var l []int
	for _, n := range numbers() {
		is := n >= 0
		want := min(max(n, 0), 1e18)
		counts(t, text.Decimal(n), want, is)
		if is {
			l = append(l, want)
		}
	}
	lines, e := text.Lines(text.Line(text.Words(l)...))
	if e != api.OK || len(lines) != 1 {
		t.Fatal(len(lines), e)
	}
	if got, is := text.Numbers(lines[0]); !is || !slices.Equal(got, l) {
		t.Error(len(got), is)
	}
}

package days_test

import (
	"math"
	"math/big"
	"math/rand"
	"slices"
	"strings"
	"testing"

	"tranter/api"
	"tranter/days"
)

const full = days.Set(math.MaxUint64)

// bit tells by whole numbers of any size whether a day is in a set.
func bit(s days.Set, d int) bool {
	return d >= 0 && new(big.Int).SetUint64(uint64(s)).Bit(d) == 1
}

// listed are a set's days, rising.
func listed(s days.Set) []int {
	var l []int
	for d := range 64 {
		if bit(s, d) {
			l = append(l, d)
		}
	}
	return l
}

// sets are those at which something changes, and others of few days, of half of them, and of nearly all.
func sets() []days.Set {
	l := []days.Set{0, 1, 2, 3, 9, 1 << 31, 1 << 32, 1<<32 - 1, 1 << 62, 1 << 63, 1<<63 | 1, 1<<63 - 1, full, full - 1}
	for d := range 64 {
		l = append(l, 1<<d, full^1<<d, full<<d, full>>d)
	}
	r := rand.New(rand.NewSource(1))
	for range 300 {
		a, b, c := r.Uint64(), r.Uint64(), r.Uint64()
		l = append(l, days.Set(a), days.Set(a&b&c), days.Set(a|b|c))
	}
	return l
}

// someDays are all days, and numbers that are none.
func someDays() []int {
	l := []int{math.MinInt, math.MinInt + 1, -1 << 32, -64, -63, -2, -1, 64, 65, 66, 127, 128, 255, 256, 1 << 32, 1<<32 + 3, math.MaxInt - 1, math.MaxInt}
	for d := range 64 {
		l = append(l, d)
	}
	return l
}

func isDay(d int) bool { return 0 <= d && d <= 63 }

// P2.1

func TestOf(t *testing.T) {
	for _, c := range []struct {
		l    []int
		want days.Set
	}{
		{nil, 0}, {[]int{}, 0}, {[]int{0}, 1}, {[]int{63}, 1 << 63}, {[]int{0, 3}, 9}, {[]int{3, 0}, 9}, {[]int{3, 3, 0, 3}, 9},
		{[]int{-1}, 0}, {[]int{64}, 0}, {[]int{65, 128, 1 << 32, math.MaxInt, math.MinInt, -64}, 0},
		{[]int{64, 5, -1, 62}, 1<<5 | 1<<62}, {[]int{math.MinInt, 1, math.MaxInt}, 2},
	} {
		if s := days.Of(c.l...); s != c.want {
			t.Errorf("Of(%v): %x; want %x", c.l, uint64(s), uint64(c.want))
		}
	}
}

func TestOfAnyRow(t *testing.T) {
	r := rand.New(rand.NewSource(2))
	for range 2000 {
		l := make([]int, r.Intn(80))
		for i := range l {
			l[i] = r.Intn(80) - 8
		}
		s := days.Of(l...)
		for d := range 64 {
			if bit(s, d) != slices.Contains(l, d) {
				t.Fatalf("Of(%v): day %d: %v", l, d, bit(s, d))
			}
		}
	}
}

func TestOfLeavesItsListAsItIs(t *testing.T) {
	room := []int{5, -1, 64, 2, 77, 78}
	days.Of(room[:4]...)
	if !slices.Equal(room, []int{5, -1, 64, 2, 77, 78}) {
		t.Error(room)
	}
}

func TestHas(t *testing.T) {
	for _, s := range sets() {
		for _, d := range someDays() {
			if got, want := s.Has(d), isDay(d) && bit(s, d); got != want {
				t.Errorf("%x has %d: %v", uint64(s), d, got)
			}
		}
	}
}

// changed holds a set against another, of which at most one day may be otherwise.
func changed(t *testing.T, name string, s, got days.Set, d int, want bool) {
	t.Helper()
	for i := range 64 {
		is := bit(s, i)
		if i == d {
			is = want
		}
		if bit(got, i) != is {
			t.Errorf("%x %s %d: %x", uint64(s), name, d, uint64(got))
			return
		}
	}
}

func TestWithAndWithout(t *testing.T) {
	for _, s := range sets() {
		for _, d := range someDays() {
			changed(t, "with", s, s.With(d), d, true)
			changed(t, "without", s, s.Without(d), d, false)
		}
	}
}

func TestASetIsNotChangedItself(t *testing.T) {
	s := days.Of(1, 2)
	s.With(3)
	s.Without(1)
	if s != 6 {
		t.Error(s)
	}
}

func TestLenAndAll(t *testing.T) {
	for _, s := range sets() {
		want := listed(s)
		if l := s.All(); !slices.Equal(l, want) {
			t.Errorf("all of %x: %v", uint64(s), l)
		}
		if n := s.Len(); n != len(want) {
			t.Errorf("len of %x: %d", uint64(s), n)
		}
	}
	if n := full.Len(); n != 64 {
		t.Error(n)
	}
	if l := days.Set(0).All(); len(l) != 0 {
		t.Error(l)
	}
}

func TestAllIsNewMemory(t *testing.T) {
	s := days.Of(1, 5, 63)
	l := s.All()
	l[0], l[1], l[2] = 9, 9, 9
	_ = append(l[:1], 7)
	if again := s.All(); !slices.Equal(again, []int{1, 5, 63}) {
		t.Error(again)
	}
}

func TestNext(t *testing.T) {
	for _, s := range sets() {
		l := listed(s)
		for _, d := range someDays() {
			want := -1
			if i := slices.IndexFunc(l, func(x int) bool { return x >= d }); i >= 0 {
				want = l[i]
			}
			if got := s.Next(d); got != want {
				t.Errorf("%x next %d: %d; want %d", uint64(s), d, got, want)
			}
		}
	}
	if d := days.Of(0, 3).Next(1); d != 3 {
		t.Error(d)
	}
}

func TestNextGoesThroughAllDays(t *testing.T) {
	for _, s := range sets() {
		var l []int
		for d := s.Next(0); d >= 0; d = s.Next(d + 1) {
			l = append(l, d)
		}
		if !slices.Equal(l, listed(s)) {
			t.Errorf("%x: %v", uint64(s), l)
		}
	}
}

// P2.2

func TestText(t *testing.T) {
	for _, c := range []struct {
		s    days.Set
		n    int
		want string
	}{
		{days.Of(0, 3), 5, "10010"}, {days.Of(0, 3), 4, "1001"}, {days.Of(0, 3), 3, "100"}, {days.Of(0, 3), 1, "1"}, {days.Of(3), 1, "0"},
		{0, 1, "0"}, {0, 3, "000"}, {full, 2, "11"}, {full, 64, strings.Repeat("1", 64)}, {0, 64, strings.Repeat("0", 64)},
		{1 << 63, 64, strings.Repeat("0", 63) + "1"}, {1 << 63, 63, strings.Repeat("0", 63)}, {1 << 62, 63, strings.Repeat("0", 62) + "1"},
		{full, 0, ""}, {full, -1, ""}, {full, 65, ""}, {full, 66, ""}, {full, math.MaxInt, ""}, {full, math.MinInt, ""}, {full, -64, ""}, {full, 1 << 32, ""},
	} {
		if got := c.s.Text(c.n); got != c.want {
			t.Errorf("%x for %d: %q; want %q", uint64(c.s), c.n, got, c.want)
		}
	}
}

func TestTextTellsEachDay(t *testing.T) {
	for _, s := range sets() {
		for n := 1; n <= 64; n++ {
			x := s.Text(n)
			if len(x) != n {
				t.Fatalf("%x for %d: %q", uint64(s), n, x)
			}
			for d := range n {
				if want := "01"[s>>d&1]; x[d] != want {
					t.Fatalf("%x for %d: %q", uint64(s), n, x)
				}
			}
		}
	}
}

type parsed struct {
	t string
	s days.Set
	e api.Errno
}

func parses(t *testing.T, l []parsed) {
	t.Helper()
	for _, c := range l {
		if s, e := days.Parse(c.t); s != c.s || e != c.e {
			t.Errorf("%q: %x, %v; want %x, %v", c.t, uint64(s), e, uint64(c.s), c.e)
		}
	}
}

func TestParse(t *testing.T) {
	parses(t, []parsed{
		{"0", 0, api.OK}, {"1", 1, api.OK}, {"01", 2, api.OK}, {"10010", 9, api.OK}, {"0110", 6, api.OK}, {"000", 0, api.OK},
		{strings.Repeat("0", 64), 0, api.OK}, {strings.Repeat("1", 64), full, api.OK}, {strings.Repeat("1", 63), full >> 1, api.OK},
		{strings.Repeat("0", 63) + "1", 1 << 63, api.OK}, {"1" + strings.Repeat("0", 63), 1, api.OK},
	})
}

func TestParseOfNoText(t *testing.T) {
	parses(t, []parsed{
		{"", 0, api.ErrForm}, {"2", 0, api.ErrForm}, {"012", 0, api.ErrForm}, {"211", 0, api.ErrForm}, {"x", 0, api.ErrForm}, {"1x1", 0, api.ErrForm},
		{" ", 0, api.ErrForm}, {"1 0", 0, api.ErrForm}, {" 10", 0, api.ErrForm}, {"10 ", 0, api.ErrForm}, {"10\n", 0, api.ErrForm}, {"\t1", 0, api.ErrForm},
		{"+1", 0, api.ErrForm}, {"-1", 0, api.ErrForm}, {"1/0", 0, api.ErrForm}, {"\x00", 0, api.ErrForm}, {"1\x001", 0, api.ErrForm}, {"\x01", 0, api.ErrForm},
		{"1\xff", 0, api.ErrForm}, {"\x80", 0, api.ErrForm}, {"é1", 0, api.ErrForm}, {"1\u0661", 0, api.ErrForm}, {"\uff11", 0, api.ErrForm}, {"1\ufffd", 0, api.ErrForm}, {"\U00010031", 0, api.ErrForm}, {"\u0130", 0, api.ErrForm}, {"\u0131", 0, api.ErrForm},
	})
}

func TestParseOfEachSign(t *testing.T) {
	for b := range 256 {
		for _, in := range []string{string([]byte{byte(b)}), string([]byte{'1', byte(b)}), string([]byte{byte(b), '1'})} {
			_, e := days.Parse(in)
			if good := b == '0' || b == '1'; good != (e == api.OK) || !good && e != api.ErrForm {
				t.Errorf("%q: %v", in, e)
			}
		}
	}
}

func TestParseOfTooMany(t *testing.T) {
	parses(t, []parsed{
		{strings.Repeat("0", 65), 0, api.ErrRange}, {strings.Repeat("1", 65), 0, api.ErrRange}, {strings.Repeat("1", 64) + "0", 0, api.ErrRange}, {strings.Repeat("01", 64), 0, api.ErrRange},
		{strings.Repeat("10", 500000), 0, api.ErrRange},
	})
}

func TestParseNamesTheFormFirst(t *testing.T) {
	parses(t, []parsed{
		{strings.Repeat("0", 64) + "2", 0, api.ErrForm}, {strings.Repeat("1", 65) + "x", 0, api.ErrForm}, {"x" + strings.Repeat("1", 65), 0, api.ErrForm}, {strings.Repeat("1", 64) + "é", 0, api.ErrForm}, {strings.Repeat("1", 64) + "\xff", 0, api.ErrForm},
		{strings.Repeat("10", 500000) + " ", 0, api.ErrForm}, {strings.Repeat("1", 63) + "2", 0, api.ErrForm},
		// More than 64 bytes, but not more than 64 signs.
		{strings.Repeat("é", 40), 0, api.ErrForm},
	})
}

// P2.3

func TestBest(t *testing.T) {
	for _, c := range []struct {
		l     []uint64
		price []int
		at, p int
	}{
		{nil, nil, -1, 0}, {[]uint64{}, []int{}, -1, 0}, {nil, []int{1, 2}, -1, 0},
		{[]uint64{3, 6, 5}, []int{5, 2, 3}, 1, 5},
		{[]uint64{7}, []int{5, 2, 3}, 0, 10}, {[]uint64{0}, []int{5, 2, 3}, 0, 0}, {[]uint64{0}, nil, 0, 0},
		// The first one of the least.
		{[]uint64{1, 2, 4}, []int{4, 4, 4}, 0, 4}, {[]uint64{7, 1, 2, 4}, []int{4, 4, 4}, 1, 4}, {[]uint64{2, 1, 2}, []int{9, 3}, 0, 3}, {[]uint64{0, 0}, []int{9}, 0, 0},
		// Days beyond the prices cost nothing.
		{[]uint64{1, 2, 8}, []int{1, 1}, 2, 0}, {[]uint64{1, 8}, nil, 0, 0}, {[]uint64{1 | 1<<63, 1 << 63}, []int{3}, 1, 0}, {[]uint64{1, 4}, []int{-1, -1}, 0, -1}, {[]uint64{4, 1}, []int{-1, -1}, 1, -1},
		// Prices below 0, and none that is not above it.
		{[]uint64{1, 2, 3}, []int{-1, -2}, 2, -3}, {[]uint64{0, 1, 2}, []int{3, -2}, 2, -2}, {[]uint64{1, 0}, []int{3}, 1, 0}, {[]uint64{3, 1}, []int{5, 1}, 1, 5},
		// More prices than there are days.
		{[]uint64{1 << 63}, append(make([]int, 63), 7, 100, 100), 0, 7},
	} {
		if at, p := days.Best(c.l, c.price); at != c.at || p != c.p {
			t.Errorf("Best(%v, %v): %d, %d; want %d, %d", c.l, c.price, at, p, c.at, c.p)
		}
	}
}

func TestBestOfSumsThatDoNotFit(t *testing.T) {
	const most, least = math.MaxInt, math.MinInt
	for _, c := range []struct {
		l     []uint64
		price []int
		at, p int
	}{
		{[]uint64{3}, []int{most, 1}, 0, most}, {[]uint64{3}, []int{1, most}, 0, most}, {[]uint64{3}, []int{most, most}, 0, most}, {[]uint64{3}, []int{most - 1, 1}, 0, most},
		{[]uint64{3}, []int{least, -1}, 0, least}, {[]uint64{3}, []int{-1, least}, 0, least}, {[]uint64{3}, []int{least, least}, 0, least}, {[]uint64{3}, []int{least + 1, -1}, 0, least},
		// As they go: what did not fit on the way is lost, and the row of days tells.
		{[]uint64{7}, []int{most, most, -1}, 0, most - 1}, {[]uint64{7}, []int{-1, most, most}, 0, most}, {[]uint64{7}, []int{most, -1, most}, 0, most},
		{[]uint64{7}, []int{least, least, 1}, 0, least + 1}, {[]uint64{7}, []int{1, least, least}, 0, least},
		{[]uint64{15}, []int{most, most, least, least}, 0, least}, {[]uint64{15}, []int{least, least, most, most}, 0, most - 1}, {[]uint64{15}, []int{most, least, most, least}, 0, -2},
		// All too great are alike, and the first one counts.
		{[]uint64{3, 1, 7}, []int{most, 5, 6}, 0, most}, {[]uint64{3, 1, 2}, []int{most, 5}, 2, 5}, {[]uint64{1, 3, 2}, []int{least, -1, 0}, 0, least}, {[]uint64{2, 3, 1}, []int{least, -1}, 1, least},
	} {
		if at, p := days.Best(c.l, c.price); at != c.at || p != c.p {
			t.Errorf("Best(%v, %v): %d, %d; want %d, %d", c.l, c.price, at, p, c.at, c.p)
		}
	}
}

// cut is a whole number of any size, or the nearest one that fits.
func cut(n *big.Int) *big.Int {
	if most := big.NewInt(math.MaxInt); n.Cmp(most) > 0 {
		return most
	}
	if least := big.NewInt(math.MinInt); n.Cmp(least) < 0 {
		return least
	}
	return n
}

// dear is what a set costs by whole numbers of any size, cut day by day.
func dear(s days.Set, price []int) int {
	sum := new(big.Int)
	for _, d := range listed(s) {
		if d < len(price) {
			sum = cut(new(big.Int).Add(sum, big.NewInt(int64(price[d]))))
		}
	}
	return int(sum.Int64())
}

// drawn is lists of sets and of prices; by its number of small prices, of great ones, or of both.
func drawn(r *rand.Rand, round int) ([]uint64, []int) {
	l := make([]uint64, r.Intn(9))
	for i := range l {
		l[i] = r.Uint64() & r.Uint64() >> r.Intn(64)
	}
	price := make([]int, r.Intn(70))
	for i := range price {
		price[i] = r.Intn(7) - 3
		if round%3 == 1 || round%3 == 2 && r.Intn(9) == 0 {
			price[i] = int(r.Uint64())
		}
	}
	return l, price
}

func TestBestIsTheFirstOfTheLeast(t *testing.T) {
	r := rand.New(rand.NewSource(3))
	for round := range 6000 {
		l, price := drawn(r, round)
		at, p := -1, 0
		for i, n := range l {
			if c := dear(days.Set(n), price); at < 0 || c < p {
				at, p = i, c
			}
		}
		if a, b := days.Best(l, price); a != at || b != p {
			t.Fatalf("Best(%v, %v): %d, %d; want %d, %d", l, price, a, b, at, p)
		}
	}
}

func TestBestLeavesItsListsAsTheyAre(t *testing.T) {
	l := []uint64{7, 3, 1 << 63, 99, 98}
	price := []int{4, 5, 6, 77, 78}
	days.Best(l[:3], price[:2])
	if !slices.Equal(l, []uint64{7, 3, 1 << 63, 99, 98}) || !slices.Equal(price, []int{4, 5, 6, 77, 78}) {
		t.Error(l, price)
	}
	// What stands in the spare room of the prices is no price.
	if at, p := days.Best([]uint64{4, 2}, price[:2]); at != 0 || p != 0 {
		t.Error(at, p)
	}
}

// P2.4

func TestASetIsReadFromItsText(t *testing.T) {
	for _, s := range sets() {
		for n := 1; n <= 64; n++ {
			enough := s.Next(n) < 0
			got, e := days.Parse(s.Text(n))
			if e != api.OK || (got == s) != enough {
				t.Fatalf("%x for %d: %x, %v", uint64(s), n, uint64(got), e)
			}
			// Where they are not enough, the days from n on are left out, and no others.
			if n < 64 && got != s&(1<<n-1) {
				t.Fatalf("%x for %d: %x", uint64(s), n, uint64(got))
			}
		}
	}
}

func TestATextIsToldOfItsSet(t *testing.T) {
	r := rand.New(rand.NewSource(4))
	for range 5000 {
		x := make([]byte, 1+r.Intn(64))
		for i := range x {
			x[i] = "01"[r.Intn(2)]
		}
		s, e := days.Parse(string(x))
		if got := s.Text(len(x)); e != api.OK || got != string(x) {
			t.Fatalf("%q: %q, %v", x, got, e)
		}
	}
}

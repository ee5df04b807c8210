package num_test

import (
	"math"
	"math/big"
	"math/rand"
	"slices"
	"testing"

	"tranter/num"
)

// edges are the numbers at which something changes: round 0, round the roots of 2^63, at both ends.
func edges() []int {
	l := []int{0, 10, -10, 3037000499, 3037000500, -3037000499, -3037000500, math.MaxInt / 2, math.MinInt / 2}
	for i := range 4 {
		l = append(l, i, -i, math.MaxInt-i, math.MinInt+i, 1<<31+i, -1<<31-i, 1<<32+i, -1<<32-i, 1<<62+i, -1<<62-i)
	}
	return l
}

// eachPair asks of all pairs of edges, and of others, spread over all sizes.
func eachPair(ask func(a, b int)) {
	l := edges()
	for _, a := range l {
		for _, b := range l {
			ask(a, b)
		}
	}
	r := rand.New(rand.NewSource(1))
	for range 20000 {
		ask(int(r.Uint64())>>r.Intn(64), int(r.Uint64())>>r.Intn(64))
	}
}

// told is what the document asks to be told of a whole number of any size.
func told(n *big.Int) (int, bool) {
	if !n.IsInt64() {
		return 0, false
	}
	return int(n.Int64()), true
}

func wide(a int) *big.Int { return big.NewInt(int64(a)) }

// holds compares an answer with a whole number of any size.
func holds(t *testing.T, name string, l []int, got int, fits bool, want *big.Int) {
	t.Helper()
	if n, ok := told(want); got != n || fits != ok {
		t.Errorf("%s(%v): %d, %v; want %d, %v", name, l, got, fits, n, ok)
	}
}

type row struct {
	a, b, want int
	fits       bool
}

// rows asks of numbers whose answers are written out.
func rows(t *testing.T, name string, f func(a, b int) (int, bool), l []row) {
	t.Helper()
	for _, r := range l {
		if n, ok := f(r.a, r.b); n != r.want || ok != r.fits {
			t.Errorf("%s(%d, %d): %d, %v; want %d, %v", name, r.a, r.b, n, ok, r.want, r.fits)
		}
	}
}

// P1.1

func TestAddRows(t *testing.T) {
	rows(t, "Add", num.Add, []row{
		{2, 3, 5, true}, {-2, 3, 1, true}, {0, 0, 0, true},
		{math.MaxInt, 0, math.MaxInt, true}, {math.MinInt, 0, math.MinInt, true},
		{math.MaxInt - 1, 1, math.MaxInt, true}, {math.MinInt + 1, -1, math.MinInt, true},
		{math.MaxInt, math.MinInt, -1, true},
		{math.MaxInt, 1, 0, false}, {1, math.MaxInt, 0, false}, {math.MaxInt, math.MaxInt, 0, false},
		{math.MinInt, -1, 0, false}, {-1, math.MinInt, 0, false}, {math.MinInt, math.MinInt, 0, false},
	})
}

func TestLessRows(t *testing.T) {
	rows(t, "Less", num.Less, []row{
		{2, 3, -1, true}, {3, 2, 1, true}, {0, 0, 0, true}, {5, 0, 5, true},
		{math.MaxInt, math.MaxInt, 0, true}, {math.MinInt, math.MinInt, 0, true},
		{-1, math.MinInt, math.MaxInt, true}, {-1, math.MaxInt, math.MinInt, true},
		{0, math.MinInt, 0, false}, {math.MinInt, 1, 0, false}, {math.MaxInt, -1, 0, false},
		{math.MinInt, math.MaxInt, 0, false}, {math.MaxInt, math.MinInt, 0, false}, {-2, math.MaxInt, 0, false},
	})
}

func TestTimesRows(t *testing.T) {
	rows(t, "Times", num.Times, []row{
		{3, 7, 21, true}, {-3, 7, -21, true}, {3, -7, -21, true}, {-3, -7, 21, true},
		{0, math.MinInt, 0, true}, {math.MinInt, 0, 0, true}, {0, -5, 0, true}, {-5, 0, 0, true},
		{1, math.MinInt, math.MinInt, true}, {math.MinInt, 1, math.MinInt, true}, {-1, math.MaxInt, -math.MaxInt, true},
		{1 << 32, -1 << 31, math.MinInt, true}, {-1 << 31, 1 << 32, math.MinInt, true},
		{3037000499, 3037000499, 9223372030926249001, true}, {-3037000499, -3037000499, 9223372030926249001, true},
		{7, 1317624576693539401, math.MaxInt, true}, {-7, 1317624576693539401, -math.MaxInt, true},
		{-3, 3074457345618258603, 0, false}, {3, 3074457345618258603, 0, false}, {-2, 1<<62 + 1, 0, false},
		{math.MinInt, -1, 0, false}, {-1, math.MinInt, 0, false}, {math.MinInt, math.MinInt, 0, false},
		{1 << 32, 1 << 31, 0, false}, {-1 << 32, -1 << 31, 0, false}, {1 << 32, 1 << 32, 0, false},
		{3037000500, 3037000500, 0, false}, {3037000500, -3037000500, 0, false},
		{math.MaxInt, 2, 0, false}, {math.MaxInt, math.MaxInt, 0, false}, {math.MaxInt, math.MinInt, 0, false},
	})
}

func TestSumsDifferencesProductsAreExact(t *testing.T) {
	eachPair(func(a, b int) {
		l := []int{a, b}
		n, ok := num.Add(a, b)
		holds(t, "Add", l, n, ok, new(big.Int).Add(wide(a), wide(b)))
		n, ok = num.Less(a, b)
		holds(t, "Less", l, n, ok, new(big.Int).Sub(wide(a), wide(b)))
		n, ok = num.Times(a, b)
		holds(t, "Times", l, n, ok, new(big.Int).Mul(wide(a), wide(b)))
	})
}

func TestSumRows(t *testing.T) {
	for _, c := range []struct {
		l    []int
		want int
		fits bool
	}{
		{nil, 0, true},
		{[]int{}, 0, true},
		{[]int{7}, 7, true},
		{[]int{math.MinInt}, math.MinInt, true},
		{[]int{math.MaxInt}, math.MaxInt, true},
		{[]int{1, 2, 3, -10}, -4, true},
		{[]int{math.MaxInt, 1, -1}, math.MaxInt, true},
		{[]int{math.MinInt, -1, 1}, math.MinInt, true},
		{[]int{math.MaxInt, math.MaxInt, math.MinInt, -5}, math.MaxInt - 6, true},
		{[]int{math.MinInt, math.MinInt, math.MaxInt, math.MaxInt, 2}, 0, true},
		{[]int{math.MinInt, math.MinInt, math.MinInt, math.MaxInt, math.MaxInt, math.MaxInt}, -3, true},
		{[]int{math.MaxInt, 1}, 0, false},
		{[]int{math.MinInt, -1}, 0, false},
		{[]int{math.MaxInt, 1, -1, 1}, 0, false},
		{[]int{math.MinInt, math.MinInt}, 0, false},
		{[]int{math.MinInt, math.MinInt, math.MinInt, math.MinInt}, 0, false},
		{[]int{math.MaxInt, math.MaxInt, 2}, 0, false},
		{[]int{math.MaxInt, math.MaxInt, math.MaxInt, math.MaxInt, 4}, 0, false},
	} {
		if n, ok := num.Sum(c.l...); n != c.want || ok != c.fits {
			t.Errorf("Sum(%v): %d, %v; want %d, %v", c.l, n, ok, c.want, c.fits)
		}
	}
}

// drawn is a list of numbers of which many are great, so that sums on the way leave the range.
func drawn(r *rand.Rand) []int {
	e := edges()
	l := make([]int, r.Intn(12))
	for i := range l {
		l[i] = e[r.Intn(len(e))]
		if r.Intn(4) == 0 {
			l[i] = int(r.Uint64())
		}
	}
	return l
}

func TestSumIsExactInAnyRow(t *testing.T) {
	r := rand.New(rand.NewSource(2))
	for range 20000 {
		l := drawn(r)
		want := new(big.Int)
		for _, n := range l {
			want.Add(want, wide(n))
		}
		n, ok := num.Sum(l...)
		holds(t, "Sum", l, n, ok, want)
		r.Shuffle(len(l), func(i, j int) { l[i], l[j] = l[j], l[i] })
		n, ok = num.Sum(l...)
		holds(t, "Sum", l, n, ok, want)
	}
}

func TestSumOfMany(t *testing.T) {
	l := slices.Repeat([]int{math.MaxInt}, 100000)
	if n, ok := num.Sum(l...); n != 0 || ok {
		t.Error("great ones", n, ok)
	}
	l = append(l, slices.Repeat([]int{math.MinInt}, 100000)...)
	if n, ok := num.Sum(l...); n != -100000 || !ok {
		t.Error("both", n, ok)
	}
}

func TestSumLeavesItsListAsItIs(t *testing.T) {
	room := []int{math.MaxInt, 4, -9, 77, 78}
	num.Sum(room[:3]...)
	if !slices.Equal(room, []int{math.MaxInt, 4, -9, 77, 78}) {
		t.Error(room)
	}
}

// P1.2

func TestFloorRows(t *testing.T) {
	rows(t, "Floor", num.Floor, []row{
		{7, 2, 3, true}, {-7, 2, -4, true}, {7, -2, -4, true}, {-7, -2, 3, true},
		{6, 2, 3, true}, {-6, 2, -3, true}, {6, -2, -3, true}, {-6, -2, 3, true},
		{0, 5, 0, true}, {0, -5, 0, true}, {1, 5, 0, true}, {-1, 5, -1, true}, {1, -5, -1, true}, {-1, -5, 0, true},
		{math.MinInt, 1, math.MinInt, true}, {math.MaxInt, -1, -math.MaxInt, true}, {math.MinInt + 1, -1, math.MaxInt, true},
		{math.MinInt, math.MinInt, 1, true}, {math.MaxInt, math.MinInt, -1, true}, {math.MinInt, math.MaxInt, -2, true},
		{math.MinInt, 2, -1 << 62, true}, {math.MinInt, -2, 1 << 62, true}, {math.MaxInt, 2, 1<<62 - 1, true},
		{math.MinInt, -1, 0, false}, {7, 0, 0, false}, {0, 0, 0, false}, {-7, 0, 0, false}, {math.MinInt, 0, 0, false},
	})
}

func TestCeilRows(t *testing.T) {
	rows(t, "Ceil", num.Ceil, []row{
		{7, 2, 4, true}, {-7, 2, -3, true}, {7, -2, -3, true}, {-7, -2, 4, true},
		{6, 2, 3, true}, {-6, 2, -3, true}, {6, -2, -3, true}, {-6, -2, 3, true},
		{0, 5, 0, true}, {0, -5, 0, true}, {1, 5, 1, true}, {-1, 5, 0, true}, {1, -5, 0, true}, {-1, -5, 1, true},
		{math.MinInt, 1, math.MinInt, true}, {math.MaxInt, -1, -math.MaxInt, true}, {math.MinInt + 1, -1, math.MaxInt, true},
		{math.MinInt, math.MinInt, 1, true}, {math.MaxInt, math.MinInt, 0, true}, {math.MinInt, math.MaxInt, -1, true},
		{math.MaxInt, 2, 1 << 62, true}, {math.MinInt, -2, 1 << 62, true}, {math.MaxInt, -2, -1<<62 + 1, true},
		{math.MinInt, -1, 0, false}, {1, 0, 0, false}, {0, 0, 0, false}, {-1, 0, 0, false}, {math.MaxInt, 0, 0, false},
	})
}

// rounded is a by b, rounded down, and rounded up.
func rounded(a, b int) (*big.Int, *big.Int) {
	// DivMod leaves a rest from 0 on, so its quotient is the floor just if b is above 0.
	x, y := wide(a), wide(b)
	if b < 0 {
		x.Neg(x)
		y.Neg(y)
	}
	floor, rest := new(big.Int).DivMod(x, y, new(big.Int))
	ceil := new(big.Int).Set(floor)
	if rest.Sign() != 0 {
		ceil.Add(ceil, wide(1))
	}
	return floor, ceil
}

func TestQuotientsAreExact(t *testing.T) {
	eachPair(func(a, b int) {
		f, down := num.Floor(a, b)
		c, up := num.Ceil(a, b)
		if b == 0 {
			if f != 0 || down || c != 0 || up {
				t.Error("by 0", a, f, down, c, up)
			}
			return
		}
		floor, ceil := rounded(a, b)
		holds(t, "Floor", []int{a, b}, f, down, floor)
		holds(t, "Ceil", []int{a, b}, c, up, ceil)
	})
}

func TestClip(t *testing.T) {
	for _, c := range [][4]int{
		{5, 0, 9, 5}, {5, 7, 9, 7}, {5, 0, 3, 3}, {5, 5, 5, 5}, {5, 5, 9, 5}, {5, 0, 5, 5}, {-5, -9, -7, -7},
		{5, 9, 2, 2}, {1, 9, 2, 2}, {10, 9, 2, 2}, {0, 9, -9, -9},
		{math.MaxInt, math.MinInt, 0, 0}, {math.MinInt, 0, math.MaxInt, 0}, {math.MinInt, math.MinInt, math.MaxInt, math.MinInt},
		{math.MaxInt, math.MinInt, math.MaxInt, math.MaxInt}, {0, math.MaxInt, math.MinInt, math.MinInt},
	} {
		if n := num.Clip(c[0], c[1], c[2]); n != c[3] {
			t.Errorf("Clip(%d, %d, %d): %d; want %d", c[0], c[1], c[2], n, c[3])
		}
	}
}

func TestSat(t *testing.T) {
	for _, c := range [][3]int{
		{2, 3, 5}, {-2, -3, -5}, {0, 0, 0}, {math.MaxInt, math.MinInt, -1}, {math.MinInt, math.MaxInt, -1},
		{math.MaxInt - 1, 1, math.MaxInt}, {math.MinInt + 1, -1, math.MinInt},
		{math.MaxInt, 1, math.MaxInt}, {5, math.MaxInt, math.MaxInt}, {math.MaxInt, math.MaxInt, math.MaxInt},
		{math.MinInt, -1, math.MinInt}, {-5, math.MinInt, math.MinInt}, {math.MinInt, math.MinInt, math.MinInt},
	} {
		if n := num.Sat(c[0], c[1]); n != c[2] {
			t.Errorf("Sat(%d, %d): %d; want %d", c[0], c[1], n, c[2])
		}
	}
}

func TestSatIsTheNearest(t *testing.T) {
	eachPair(func(a, b int) {
		sum := new(big.Int).Add(wide(a), wide(b))
		want, ok := told(sum)
		if !ok && sum.Sign() > 0 {
			want = math.MaxInt
		} else if !ok {
			want = math.MinInt
		}
		if n := num.Sat(a, b); n != want {
			t.Errorf("Sat(%d, %d): %d; want %d", a, b, n, want)
		}
	})
}

// P1.3

func TestDifferencesUndoSums(t *testing.T) {
	eachPair(func(a, b int) {
		s, ok := num.Add(a, b)
		if !ok {
			return
		}
		if n, fits := num.Less(s, b); n != a || !fits {
			t.Errorf("Less(%d, %d): %d, %v; want %d", s, b, n, fits, a)
		}
		if n, fits := num.Less(s, a); n != b || !fits {
			t.Errorf("Less(%d, %d): %d, %v; want %d", s, a, n, fits, b)
		}
	})
}

func TestSumsUndoDifferences(t *testing.T) {
	eachPair(func(a, b int) {
		d, ok := num.Less(a, b)
		if !ok {
			return
		}
		if n, fits := num.Add(d, b); n != a || !fits {
			t.Errorf("Add(%d, %d): %d, %v; want %d", d, b, n, fits, a)
		}
	})
}

// within tells whether what is left is of the divisor's side, and less than it.
func within(left, b int) bool {
	if b > 0 {
		return 0 <= left && left < b
	}
	return b < left && left <= 0
}

func TestFloorAndWhatIsLeftMakeTheNumber(t *testing.T) {
	eachPair(func(a, b int) {
		q, ok := num.Floor(a, b)
		if !ok {
			return
		}
		// q b alone may be too great, where a is near the end; a product modulo 2^64 is enough for what is left.
		left := a - q*b
		whole := new(big.Int).Mul(wide(q), wide(b))
		whole.Add(whole, wide(left))
		if !within(left, b) || whole.Cmp(wide(a)) != 0 {
			t.Errorf("Floor(%d, %d): %d, left %d", a, b, q, left)
		}
	})
}

func TestFloorAndCeilEncloseTheQuotient(t *testing.T) {
	eachPair(func(a, b int) {
		f, down := num.Floor(a, b)
		c, up := num.Ceil(a, b)
		if down != up {
			t.Error("fits", a, b, down, up)
		}
		if !down || !up {
			return
		}
		apart := 1
		if a%b == 0 {
			apart = 0
		}
		if c-f != apart {
			t.Errorf("Floor, Ceil(%d, %d): %d, %d", a, b, f, c)
		}
	})
}

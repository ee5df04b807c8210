package stock_test

import (
	"math"
	"math/big"
	"math/rand"
	"slices"
	"testing"

	"tranter/api"
	"tranter/inst"
	"tranter/stock"
)

const most = 1 << 31 // the greatest magnitude

// tank is a customer with a tank.
func tank(size, start, rate, rule, hold int) api.Customer {
	return api.Customer{Kind: api.Tank, Size: size, Start: start, Rate: rate, Rule: rule, Hold: hold}
}

// some is the document's tank.
func some(rule int) api.Customer { return tank(6, 3, 2, rule, 3) }

// behind is what is there on a day, behind what is brought, if the days ahead went as they may: what was there at first, and all that came, less what was taken on the days ahead.
func behind(c api.Customer, q []int, d int) int {
	sum := c.Start - c.Rate*d
	for _, n := range q[:d+1] {
		sum += n
	}
	return sum
}

// model is what Nights and Holds answer, by the document's words, a question behind the other.
func model(c api.Customer, q []int) (nights []int, told, held api.Errno) {
	for _, n := range q {
		if n < 0 || n > most {
			return nil, api.ErrArg, api.ErrArg
		}
	}
	for d := range q {
		if n := behind(c, q, d); n > c.Size || n < c.Rate {
			return nil, api.ErrStock, api.ErrStock
		}
		nights = append(nights, behind(c, q, d)-c.Rate)
	}
	for d, n := range q {
		if c.Rule == api.FillUp && n > 0 && behind(c, q, d) != c.Size {
			return nights, api.OK, api.ErrRule
		}
	}
	return nights, api.OK, api.OK
}

// answers holds Nights and Holds to what is wanted.
func answers(t *testing.T, c api.Customer, q, nights []int, told, held api.Errno) {
	t.Helper()
	was := slices.Clone(q)
	if l, e := stock.Nights(c, q); !slices.Equal(l, nights) || e != told {
		t.Errorf("Nights(%+v, %v): %v, %v; want %v, %v", c, q, l, e, nights, told)
	}
	if e := stock.Holds(c, q); e != held {
		t.Errorf("Holds(%+v, %v): %v; want %v", c, q, e, held)
	}
	if !slices.Equal(q, was) {
		t.Errorf("%v is changed: %v", was, q)
	}
}

// asModelled holds Nights and Holds to the model, and tells what Holds answers.
func asModelled(t *testing.T, c api.Customer, q []int) api.Errno {
	t.Helper()
	nights, told, held := model(c, q)
	answers(t, c, q, nights, told, held)
	return held
}

// drawn is a tank, of numbers up to a size.
func drawn(r *rand.Rand, size int) api.Customer {
	c := tank(1+r.Intn(size), 0, 0, api.FillUp+r.Intn(2), r.Intn(1025))
	c.Start, c.Rate = r.Intn(c.Size+1), r.Intn(c.Size/3+1)
	return c
}

// brought are bringings by chance, for n days, most of which may be; seldom one is wrong by little.
func brought(r *rand.Rand, c api.Customer, n int) []int {
	q := make([]int, n)
	for d := range q {
		fits := c.Size - behind(c, q, d)
		if fits < 0 {
			continue
		}
		least := max(c.Rate-behind(c, q, d), 0)
		switch r.Intn(60) {
		case 0:
			q[d] = fits + 1
		case 1:
			q[d] = max(least-1, 0)
		case 2:
			q[d] = []int{-1, most + 1, math.MinInt, math.MaxInt}[r.Intn(4)]
		case 3, 4, 5, 6, 7:
			q[d] = fits
		case 8, 9:
			q[d] = min(least+r.Intn(fits+1), fits)
		default:
			if least > 0 {
				q[d] = fits
			}
		}
		if q[d] < 0 || q[d] > fits {
			// Behind it nothing is reckoned any more.
			break
		}
	}
	return q
}

// P9.1

func TestNights(t *testing.T) {
	for _, x := range []struct {
		q, nights []int
		e         api.Errno
	}{
		{[]int{0, 5, 0}, []int{1, 4, 2}, api.OK},
		{[]int{}, nil, api.OK},
		{nil, nil, api.OK},
		{[]int{0}, []int{1}, api.OK},
		{[]int{3}, []int{4}, api.OK}, // just full
		{[]int{4}, nil, api.ErrStock},
		{[]int{0, 1}, []int{1, 0}, api.OK}, // just what is taken
		{[]int{0, 0}, nil, api.ErrStock},
		{[]int{0, 1, 2, 2, 2}, []int{1, 0, 0, 0, 0}, api.OK},
		{[]int{0, 1, 1, 6}, nil, api.ErrStock},
		{[]int{3, 2, 2, 2}, []int{4, 4, 4, 4}, api.OK},
		{[]int{3, 2, 3, 0}, nil, api.ErrStock},
		{[]int{0, 5, 0, 0, 0}, nil, api.ErrStock},
	} {
		answers(t, some(api.AnyUp), x.q, x.nights, x.e, x.e)
	}
}

// What is brought comes ahead of what is taken: neither does it fit only because something is taken that day, nor does it come too late for it.
func TestNightsOfATankThatIsTakenWhole(t *testing.T) {
	c := tank(5, 0, 5, api.AnyUp, 0)
	answers(t, c, []int{5, 5, 5}, []int{0, 0, 0}, api.OK, api.OK)
	answers(t, c, []int{5, 4}, nil, api.ErrStock, api.ErrStock)
	answers(t, c, []int{5, 6}, nil, api.ErrStock, api.ErrStock)
	c.Start = 5
	answers(t, c, []int{0, 5}, []int{0, 0}, api.OK, api.OK)
	answers(t, c, []int{1, 4}, nil, api.ErrStock, api.ErrStock)
	c.Rate = 6
	answers(t, c, []int{0}, nil, api.ErrStock, api.ErrStock)
	answers(t, c, []int{1}, nil, api.ErrStock, api.ErrStock)
	answers(t, c, nil, nil, api.OK, api.OK)
}

// A quantity that may not be handed in counts first, wherever it stands, also behind a day on which the tank runs dry or over.
func TestNightsOfWrongQuantities(t *testing.T) {
	for _, wrong := range []int{-1, -2, most + 1, most + 2, 1 << 32, math.MinInt, math.MaxInt} {
		for _, q := range [][]int{{wrong}, {wrong, 0}, {3, wrong}, {9, wrong}, {0, 0, wrong}, {wrong, 9}, {0, 5, 0, wrong}, {1, 0, 0, 0, wrong, 0}} {
			for _, rule := range []int{api.FillUp, api.AnyUp} {
				answers(t, some(rule), q, nil, api.ErrArg, api.ErrArg)
			}
		}
	}
	for _, q := range [][]int{{most}, {0, most}, {most, most}, {most - 1}} {
		answers(t, some(api.AnyUp), q, nil, api.ErrStock, api.ErrStock)
	}
}

// The greatest numbers that a tank may have.
func TestNightsOfGreatTanks(t *testing.T) {
	c := tank(most, 0, most, api.AnyUp, api.MaxHold)
	q, nights := slices.Repeat([]int{most}, 64), make([]int, 64)
	answers(t, c, q, nights, api.OK, api.OK)
	q[63]--
	answers(t, c, q, nil, api.ErrStock, api.ErrStock)
	c = tank(most, most, 0, api.AnyUp, api.MaxHold)
	answers(t, c, []int{0, 0, 0}, []int{most, most, most}, api.OK, api.OK)
	answers(t, c, []int{0, 0, 1}, nil, api.ErrStock, api.ErrStock)
	answers(t, c, []int{most}, nil, api.ErrStock, api.ErrStock)
	c = tank(most, 1, 0, api.FillUp, 0)
	answers(t, c, []int{0, most - 1, 0}, []int{1, most, most}, api.OK, api.OK)
	answers(t, c, []int{0, most - 2, 0}, []int{1, most - 1, most - 1}, api.OK, api.ErrRule)
	answers(t, c, []int{most}, nil, api.ErrStock, api.ErrStock)
	c = tank(1, 0, 0, api.FillUp, 0)
	answers(t, c, []int{0, 0, 1, 0}, []int{0, 0, 1, 1}, api.OK, api.OK)
}

// There may be more bringings than days: the document bounds them nowhere.
func TestNightsOfManyDays(t *testing.T) {
	c := tank(7, 7, 1, api.FillUp, 5)
	q, nights, sum := make([]int, 70000), make([]int, 70000), 0
	for d := range q {
		if d > 0 && d%7 == 0 {
			q[d] = 7
		}
		nights[d] = 6 - d%7
		sum += nights[d]
	}
	answers(t, c, q, nights, api.OK, api.OK)
	if n := stock.Held(c, nights); n != 5*sum {
		t.Error(n)
	}
	answers(t, c, append(q, -1), nil, api.ErrArg, api.ErrArg)
	answers(t, c, append(q, 8), nil, api.ErrStock, api.ErrStock)
}

// All tanks of few, with all bringings of few for up to three days.
func TestNightsOfAllSmallTanks(t *testing.T) {
	for n := range 7 * 7 * 7 {
		q := []int{n%7 - 1, n/7%7 - 1, n/49 - 1}
		for size := 1; size <= 4; size++ {
			for start := range size + 1 {
				for rate := range size + 2 {
					for _, rule := range []int{api.FillUp, api.AnyUp} {
						c := tank(size, start, rate, rule, 0)
						asModelled(t, c, q)
						asModelled(t, c, q[:2])
						asModelled(t, c, q[:1])
					}
				}
			}
		}
	}
}

func TestNightsByChance(t *testing.T) {
	r := rand.New(rand.NewSource(91))
	counts := map[api.Errno]int{}
	for i := range 40000 {
		c := drawn(r, []int{3, 20, 1000, most}[i%4])
		if e := inst.May(api.Instance{Days: 1, Customers: []api.Customer{c}, Dist: [][]int{{0, 0}, {0, 0}}}); e != api.OK {
			t.Fatal(c, e)
		}
		counts[asModelled(t, c, brought(r, c, r.Intn(12)))]++
	}
	for _, e := range []api.Errno{api.OK, api.ErrArg, api.ErrStock, api.ErrRule} {
		if counts[e] < 1000 {
			t.Errorf("%v: only %d", e, counts[e])
		}
	}
}

// P9.2

func TestHolds(t *testing.T) {
	for _, x := range []struct {
		q       []int
		any, up api.Errno
	}{
		{nil, api.OK, api.OK},
		{[]int{0}, api.OK, api.OK},
		{[]int{3}, api.OK, api.OK},
		{[]int{0, 5}, api.OK, api.OK},
		{[]int{3, 2, 0}, api.OK, api.OK},
		{[]int{3, 0, 4, 0}, api.OK, api.OK},
		{[]int{2}, api.OK, api.ErrRule},
		{[]int{1, 0}, api.OK, api.ErrRule},
		{[]int{0, 4}, api.OK, api.ErrRule},
		{[]int{3, 1}, api.OK, api.ErrRule},
		{[]int{1, 4}, api.OK, api.ErrRule},
		{[]int{0, 4, 3}, api.OK, api.ErrRule},
		{[]int{2, 9}, api.ErrStock, api.ErrStock}, // ahead of a rule that is broken on an earlier day
		{[]int{1, 0, 0, 0}, api.ErrStock, api.ErrStock},
		{[]int{4}, api.ErrStock, api.ErrStock},
		{[]int{2, -1}, api.ErrArg, api.ErrArg},
		{[]int{2, 9, most + 1}, api.ErrArg, api.ErrArg},
	} {
		for rule, want := range map[int]api.Errno{api.AnyUp: x.any, api.FillUp: x.up} {
			if e := stock.Holds(some(rule), x.q); e != want {
				t.Errorf("rule %d, %v: %v; want %v", rule, x.q, e, want)
			}
			asModelled(t, some(rule), x.q)
		}
	}
}

// A tank that is full with nothing taken may be visited with nothing alone.
func TestHoldsOfAFullTank(t *testing.T) {
	for _, rule := range []int{api.FillUp, api.AnyUp} {
		c := tank(4, 4, 0, rule, 1)
		answers(t, c, []int{0, 0}, []int{4, 4}, api.OK, api.OK)
		answers(t, c, []int{0, 1}, nil, api.ErrStock, api.ErrStock)
	}
}

func TestHeld(t *testing.T) {
	for _, x := range []struct {
		hold   int
		nights []int
		want   int
	}{
		{3, []int{1, 4, 2}, 21},
		{1, []int{1, 4, 2}, 7},
		{0, []int{1, 4, 2}, 0},
		{3, nil, 0},
		{3, []int{}, 0},
		{3, []int{0, 0}, 0},
		{7, []int{5}, 35},
		{api.MaxHold, slices.Repeat([]int{most}, 64), 1 << 47},
		{api.MaxHold, slices.Repeat([]int{most}, 1<<21), 1 << 62},
	} {
		for _, rule := range []int{api.FillUp, api.AnyUp} {
			was := slices.Clone(x.nights)
			if n := stock.Held(tank(most, 0, 0, rule, x.hold), x.nights); n != x.want {
				t.Errorf("Held of %d nights by %d: %d; want %d", len(x.nights), x.hold, n, x.want)
			}
			if !slices.Equal(x.nights, was) {
				t.Error("the nights are changed")
			}
		}
	}
}

// What is held costs what each night costs, one by one.
func TestHeldByChance(t *testing.T) {
	r := rand.New(rand.NewSource(92))
	for range 5000 {
		c := drawn(r, most)
		nights, want := make([]int, r.Intn(70)), 0
		for d := range nights {
			nights[d] = r.Intn(c.Size + 1)
			for range c.Hold % 8 {
				want += nights[d]
			}
			want += nights[d] * (c.Hold / 8 * 8)
		}
		if n := stock.Held(c, nights); n != want {
			t.Fatal(c, nights, n, want)
		}
	}
}

// P9.3

func visit(day, quantity int) api.Visit { return api.Visit{Day: day, Quantity: quantity} }

func TestBrings(t *testing.T) {
	for _, x := range []struct {
		v    []api.Visit
		n    int
		want []int
	}{
		{[]api.Visit{visit(1, 2), visit(3, 1), visit(1, 5), visit(-1, 1)}, 3, []int{0, 7, 0}},
		{nil, 3, []int{0, 0, 0}},
		{[]api.Visit{}, 1, []int{0}},
		{[]api.Visit{visit(0, 4)}, 0, nil},
		{[]api.Visit{visit(0, 4), visit(-1, 4)}, -1, nil},
		{[]api.Visit{visit(0, 4), visit(math.MinInt, 4)}, math.MinInt, nil},
		{nil, 0, nil},
		{[]api.Visit{visit(2, 1), visit(1, 2), visit(0, 3)}, 3, []int{3, 2, 1}},
		{[]api.Visit{visit(3, 1), visit(4, 1), visit(math.MaxInt, 1), visit(math.MinInt, 1), visit(1<<32, 1), visit(64, 1), visit(2, 6)}, 3, []int{0, 0, 6}},
		{[]api.Visit{visit(1, 0), visit(1, 0)}, 2, []int{0, 0}},
		{[]api.Visit{visit(1, -3), visit(1, 5), visit(0, -2)}, 2, []int{-2, 2}},
		{[]api.Visit{visit(0, most), visit(0, most), visit(0, 1)}, 1, []int{1<<32 + 1}},
		// As Sat, one by one: a sum that does not fit is told as the nearest number, and gone on from.
		{[]api.Visit{visit(0, math.MaxInt), visit(0, 5)}, 1, []int{math.MaxInt}},
		{[]api.Visit{visit(0, math.MaxInt), visit(1, 7), visit(0, 5), visit(0, -5)}, 2, []int{math.MaxInt - 5, 7}},
		{[]api.Visit{visit(0, -5), visit(0, math.MaxInt), visit(0, 5)}, 1, []int{math.MaxInt}},
		{[]api.Visit{visit(0, math.MinInt), visit(0, -1), visit(0, 1)}, 1, []int{math.MinInt + 1}},
		{[]api.Visit{visit(0, math.MinInt), visit(0, 1), visit(0, -1), visit(0, math.MaxInt)}, 1, []int{-1}},
	} {
		was := slices.Clone(x.v)
		if q := stock.Brings(x.v, x.n); !slices.Equal(q, x.want) {
			t.Errorf("Brings(%v, %d): %v; want %v", x.v, x.n, q, x.want)
		}
		if !slices.Equal(x.v, was) {
			t.Errorf("%v is changed: %v", was, x.v)
		}
	}
}

// There are at most 64 quantities, however many days are asked for.
func TestBringsOfManyDays(t *testing.T) {
	var v []api.Visit
	for d := -3; d < 100; d++ {
		v = append(v, visit(d, d+1))
	}
	for n := -3; n < 100; n++ {
		q := stock.Brings(v, n)
		if len(q) != min(max(n, 0), 64) {
			t.Fatal(n, len(q))
		}
		for d := range q {
			if q[d] != d+1 {
				t.Error(n, d, q[d])
			}
		}
	}
	for _, n := range []int{1 << 31, 1 << 32, 1<<32 + 5, math.MaxInt} {
		if q := stock.Brings(v, n); len(q) != 64 || q[0] != 1 || q[63] != 64 {
			t.Error(n, q)
		}
	}
}

// Of each day those on it, as whole numbers of any size are added, and cut where they do not fit.
func TestBringsByChance(t *testing.T) {
	r := rand.New(rand.NewSource(93))
	least, top := big.NewInt(math.MinInt), big.NewInt(math.MaxInt)
	cut := 0
	for range 20000 {
		v, n := make([]api.Visit, r.Intn(20)), r.Intn(4)
		for i := range v {
			v[i] = visit(r.Intn(5)-1, int(r.Uint64())>>[]int{0, 0, 1, 2, 32, 60}[r.Intn(6)])
		}
		want := make([]int, n)
		for d := range want {
			sum := new(big.Int)
			for _, a := range v {
				if a.Day != d {
					continue
				}
				sum.Add(sum, big.NewInt(int64(a.Quantity)))
				if sum.Cmp(top) > 0 {
					sum.Set(top)
					cut++
				}
				if sum.Cmp(least) < 0 {
					sum.Set(least)
					cut++
				}
			}
			want[d] = int(sum.Int64())
		}
		if q := stock.Brings(v, n); !slices.Equal(q, want) {
			t.Fatalf("Brings(%v, %d): %v; want %v", v, n, q, want)
		}
	}
	if cut < 1000 {
		t.Error("only", cut, "sums do not fit")
	}
}

func TestVisits(t *testing.T) {
	for _, x := range []struct {
		q    []int
		want []api.Visit
	}{
		{nil, nil},
		{[]int{}, nil},
		{[]int{0, 0, 0}, nil},
		{[]int{-1, math.MinInt, -7}, nil},
		{[]int{0, 3, -1, 2}, []api.Visit{visit(1, 3), visit(3, 2)}},
		{[]int{1}, []api.Visit{visit(0, 1)}},
		{[]int{most, most + 1, math.MaxInt}, []api.Visit{visit(0, most), visit(1, most+1), visit(2, math.MaxInt)}},
		{append(make([]int, 99), 4, 0), []api.Visit{visit(99, 4)}},
	} {
		was := slices.Clone(x.q)
		if v := stock.Visits(x.q); !slices.Equal(v, x.want) {
			t.Errorf("Visits(%v): %v; want %v", x.q, v, x.want)
		}
		if !slices.Equal(x.q, was) {
			t.Errorf("%v is changed: %v", was, x.q)
		}
	}
}

// Bringings are their visits' again, whatever row these stand in.
func TestVisitsBringWhatIsBrought(t *testing.T) {
	r := rand.New(rand.NewSource(94))
	for range 5000 {
		q := make([]int, r.Intn(65))
		for d := range q {
			q[d] = max(r.Intn(2*most)-most, 0)
		}
		v := stock.Visits(q)
		if !slices.IsSortedFunc(v, func(a, b api.Visit) int { return a.Day - b.Day }) || slices.ContainsFunc(v, func(a api.Visit) bool { return a.Quantity < 1 }) {
			t.Fatal(q, v)
		}
		r.Shuffle(len(v), func(i, j int) { v[i], v[j] = v[j], v[i] })
		if l := stock.Brings(v, len(q)); !slices.Equal(l, q) {
			t.Fatal(q, l)
		}
	}
}

// P9.4

// level tells whether, after each day, what was there at first, and what was brought, less what was taken, is what is there; in whole numbers of any size.
func level(c api.Customer, q, nights []int) bool {
	there, rate := big.NewInt(int64(c.Start)), big.NewInt(int64(c.Rate))
	for d, n := range nights {
		there.Add(there, big.NewInt(int64(q[d])))
		there.Sub(there, rate)
		if there.Cmp(big.NewInt(int64(n))) != 0 {
			return false
		}
	}
	return len(nights) == len(q)
}

func TestWhatIsBroughtLessWhatIsTakenIsThere(t *testing.T) {
	r := rand.New(rand.NewSource(95))
	many := 0
	for i := range 30000 {
		c := drawn(r, []int{4, 50, most}[i%3])
		q := brought(r, c, r.Intn(65))
		nights, e := stock.Nights(c, q)
		if e != api.OK {
			continue
		}
		if len(q) > 20 {
			many++
		}
		if !level(c, q, nights) {
			t.Fatal(c, q, nights)
		}
		if l, e := stock.Nights(c, stock.Brings(stock.Visits(q), len(q))); e != api.OK || !slices.Equal(l, nights) {
			t.Fatal(c, q, l, e)
		}
		for _, n := range nights {
			if n < 0 || n > c.Size-c.Rate {
				t.Fatal(c, q, nights)
			}
		}
	}
	if many < 1000 {
		t.Error("only", many, "of many days")
	}
}

// What happens on a day hangs on the days ahead alone.
func TestNightsOfFewerDaysAreTheFirst(t *testing.T) {
	r := rand.New(rand.NewSource(96))
	for range 3000 {
		c := drawn(r, 30)
		q := brought(r, c, 1+r.Intn(20))
		nights, e := stock.Nights(c, q)
		if e != api.OK {
			continue
		}
		for n := range q {
			if l, e := stock.Nights(c, q[:n]); e != api.OK || !slices.Equal(l, nights[:n]) {
				t.Fatal(c, q, n, l, e)
			}
		}
	}
}

// R4

// spare is a list with room behind it that is no part of it, and whether that room is as it was.
func spare(l ...int) ([]int, func() bool) {
	all := append(slices.Clone(l), 77, 78, 79)
	return all[:len(l)], func() bool { return slices.Equal(all[len(l):], []int{77, 78, 79}) }
}

func TestSpareRoom(t *testing.T) {
	for _, l := range [][]int{{}, {0, 5, 0}, {0, 4, 0}, {0, 9, 0}, {0, -1}} {
		for _, rule := range []int{api.FillUp, api.AnyUp} {
			q, kept := spare(l...)
			asModelled(t, some(rule), q)
			stock.Visits(q)
			stock.Held(some(rule), q)
			if !slices.Equal(q, l) || !kept() {
				t.Error(l, "is changed, or its spare room")
			}
		}
	}
	all := []api.Visit{visit(1, 3), visit(0, 2), visit(1, 77), visit(2, 78)}
	if q := stock.Brings(all[:2], 3); !slices.Equal(q, []int{2, 3, 0}) {
		t.Error(q)
	}
	if !slices.Equal(all, []api.Visit{visit(1, 3), visit(0, 2), visit(1, 77), visit(2, 78)}) {
		t.Error(all)
	}
}

// Nothing is kept from call to call, and what is answered is no one else's.
func TestNewMemory(t *testing.T) {
	c, q := some(api.AnyUp), []int{0, 5, 0}
	a, _ := stock.Nights(c, q)
	b, _ := stock.Nights(c, q)
	a[0], a[1], a[2] = -1, -2, -3
	if !slices.Equal(b, []int{1, 4, 2}) || !slices.Equal(q, []int{0, 5, 0}) {
		t.Error(b, q)
	}
	v, w := stock.Visits(q), stock.Visits(q)
	v[0] = visit(-1, -1)
	if w[0] != visit(1, 5) || q[1] != 5 {
		t.Error(w, q)
	}
	k, l := stock.Brings(w, 3), stock.Brings(w, 3)
	k[1] = -1
	if !slices.Equal(l, []int{0, 5, 0}) || w[0] != visit(1, 5) {
		t.Error(l, w)
	}
	answers(t, c, q, []int{1, 4, 2}, api.OK, api.OK)
	if stock.Held(c, b) != 21 {
		t.Error("held")
	}
}

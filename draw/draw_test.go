package draw_test

import (
	"math"
	"math/big"
	"math/rand"
	"slices"
	"testing"

	"tranter/draw"
)

// plain is what a stream promises, reckoned with whole numbers of any size.
type plain struct {
	state *big.Int
	drawn int
}

// hex is a whole number of its text.
func hex(t string) *big.Int {
	n, _ := new(big.Int).SetString(t, 16)
	return n
}

var modulus = hex("10000000000000000")

// newPlain is a seed's; Mod's answers are from 0 on, which is 2^64 more for a seed below 0.
func newPlain(seed int) *plain {
	return &plain{state: new(big.Int).Mod(big.NewInt(int64(seed)), modulus)}
}

// mix is z xor z shifted right, times a number.
func mix(z *big.Int, by uint, times *big.Int) *big.Int {
	m := new(big.Int).Xor(z, new(big.Int).Rsh(z, by))
	return m.Mod(m.Mul(m, times), modulus)
}

func (p *plain) word() *big.Int {
	p.drawn++
	p.state = new(big.Int).Add(p.state, hex("9E3779B97F4A7C15"))
	p.state.Mod(p.state, modulus)
	z := mix(p.state, 30, hex("BF58476D1CE4E5B9"))
	z = mix(z, 27, hex("94D049BB133111EB"))
	return mix(z, 31, big.NewInt(1))
}

func (p *plain) below(n int) int {
	if n < 1 {
		return 0
	}
	return int(new(big.Int).Mod(p.word(), big.NewInt(int64(n))).Int64())
}

// shares are what worths count: 0 below 1, 2^31 above that.
func shares(worth []int) []*big.Int {
	l := make([]*big.Int, len(worth))
	for i, w := range worth {
		switch {
		case w < 1:
			l[i] = big.NewInt(0)
		case w > 1<<31:
			l[i] = big.NewInt(1 << 31)
		default:
			l[i] = big.NewInt(int64(w))
		}
	}
	return l
}

func (p *plain) pick(worth []int) int {
	l := shares(worth)
	sum := new(big.Int)
	for _, w := range l {
		sum.Add(sum, w)
	}
	if sum.Sign() == 0 {
		return -1
	}
	n := new(big.Int).Mod(p.word(), sum)
	upTo := new(big.Int)
	for i, w := range l {
		if upTo.Add(upTo, w).Cmp(n) > 0 {
			return i
		}
	}
	panic("no place")
}

func (p *plain) row(n int) []int {
	var l []int
	for i := 0; i < n && i < 10000; i++ {
		l = append(l, i)
	}
	for i := len(l) - 1; i >= 1; i-- {
		j := p.below(i + 1)
		at, to := l[i], l[j]
		l[i], l[j] = to, at
	}
	return l
}

func (p *plain) fork() *plain {
	return &plain{state: p.word()}
}

// pair is a stream beside what it promises.
type pair struct {
	s *draw.Stream
	p *plain
}

func newPair(seed int) pair {
	return pair{draw.New(seed), newPlain(seed)}
}

func (b pair) word(t *testing.T) {
	t.Helper()
	if got, want := b.s.Word(), b.p.word().Uint64(); got != want {
		t.Fatalf("Word: %x; want %x", got, want)
	}
}

func (b pair) below(t *testing.T, n int) {
	t.Helper()
	if got, want := b.s.Below(n), b.p.below(n); got != want {
		t.Fatalf("Below(%d): %d; want %d", n, got, want)
	}
}

func (b pair) pick(t *testing.T, worth ...int) {
	t.Helper()
	if got, want := b.s.Pick(worth), b.p.pick(worth); got != want {
		t.Fatalf("Pick(%v): %d; want %d", worth, got, want)
	}
}

func (b pair) row(t *testing.T, n int) {
	t.Helper()
	if got, want := b.s.Row(n), b.p.row(n); !slices.Equal(got, want) {
		t.Fatalf("Row(%d): %v; want %v", n, got, want)
	}
}

func (b pair) fork(t *testing.T) pair {
	t.Helper()
	f := pair{b.s.Fork(), b.p.fork()}
	f.word(t)
	return f
}

// drawnBy is how many words were drawn while something was done; a word behind it tells whether it was so.
func (b pair) drawnBy(t *testing.T, want int, do func()) {
	t.Helper()
	before := b.p.drawn
	do()
	if got := b.p.drawn - before; got != want {
		t.Fatalf("%d are drawn; want %d", got, want)
	}
	b.word(t)
}

var seeds = []int{
	0, 1, 2, 7, 42, 1234567, 1 << 31, 1<<32 - 1, 1 << 32, math.MaxInt - 1, math.MaxInt,
	-1, -2, -42, -1 << 31, -1 << 32, math.MinInt, math.MinInt + 1,
}

var bounds = []int{
	1, 2, 3, 4, 5, 7, 10, 64, 1000, 1<<31 - 1, 1 << 31, 1<<31 + 1, 1 << 32, 1<<32 + 1,
	1 << 62, 1<<62 + 1, math.MaxInt - 1, math.MaxInt,
}

// P4.1

func TestWords(t *testing.T) {
	for _, c := range []struct {
		seed int
		want []uint64
	}{
		{0, []uint64{0xE220A8397B1DCDAF, 0x6E789E6AA1B965F4, 0x06C45D188009454F, 0xF88BB8A8724C81EC, 0x1B39896A51A8749B}},
		{1234567, []uint64{6457827717110365317, 3203168211198807973, 9817491932198370423, 4593380528125082431, 16408922859458223821}},
		{-1, []uint64{0xE4D971771B652C20, 0xE99FF867DBF682C9, 0x382FF84CB27281E9}},
	} {
		s := draw.New(c.seed)
		for i, want := range c.want {
			if got := s.Word(); got != want {
				t.Errorf("seed %d, word %d: %x; want %x", c.seed, i, got, want)
			}
		}
	}
}

func TestWordsOfAnySeed(t *testing.T) {
	r := rand.New(rand.NewSource(1))
	l := slices.Clone(seeds)
	for range 300 {
		l = append(l, int(r.Uint64())>>r.Intn(64))
	}
	for _, seed := range l {
		b := newPair(seed)
		for range 40 {
			b.word(t)
		}
	}
}

func TestStateWrapsRound(t *testing.T) {
	// The first word's state is the one wanted, just where it is 0 or the greatest.
	step := uint64(0x9E3779B97F4A7C15)
	for _, state := range []uint64{0, 1, 1 << 63, math.MaxUint64} {
		b := newPair(int(state - step))
		for range 5 {
			b.word(t)
		}
	}
	if w := draw.New(0x61C8864680B583EB).Word(); w != 0 {
		t.Errorf("the state 0: %x", w)
	}
	// The seed that is the step itself goes on as the seed 0 does behind its first word.
	if w := draw.New(-0x61C8864680B583EB).Word(); w != 0x6E789E6AA1B965F4 {
		t.Errorf("the step as a seed: %x", w)
	}
}

func TestSameSeedSameWords(t *testing.T) {
	for _, seed := range seeds {
		a, b := draw.New(seed), draw.New(seed)
		for range 20 {
			if x, y := a.Word(), b.Word(); x != y {
				t.Fatalf("seed %d: %x, %x", seed, x, y)
			}
		}
	}
}

func TestStreamsAreApart(t *testing.T) {
	a, b := newPair(5), newPair(6)
	for i := range 30 {
		a.word(t)
		if i%3 == 0 {
			b.row(t, i)
			b.fork(t)
		}
		a.below(t, i)
		newPair(5).word(t)
	}
}

// P4.2

func TestBelow(t *testing.T) {
	for _, seed := range seeds {
		b := newPair(seed)
		for _, n := range bounds {
			b.drawnBy(t, 1, func() { b.below(t, n) })
		}
	}
}

func TestBelowIsWithin(t *testing.T) {
	s := draw.New(9)
	for _, n := range bounds {
		for range 200 {
			if k := s.Below(n); k < 0 || k >= n {
				t.Fatalf("Below(%d): %d", n, k)
			}
		}
	}
}

func TestBelowOneAndLess(t *testing.T) {
	b := newPair(3)
	b.drawnBy(t, 1, func() { b.below(t, 1) })
	for _, n := range []int{0, -1, -2, -1 << 32, math.MinInt + 1, math.MinInt} {
		b.drawnBy(t, 0, func() {
			if k := b.s.Below(n); k != 0 {
				t.Errorf("Below(%d): %d", n, k)
			}
		})
	}
}

func TestPickNone(t *testing.T) {
	b := newPair(3)
	for _, worth := range [][]int{nil, {}, {0}, {-5}, {0, -5}, {math.MinInt, 0, math.MinInt}, {-1, -1 << 40}} {
		b.drawnBy(t, 0, func() {
			if k := b.s.Pick(worth); k != -1 {
				t.Errorf("Pick(%v): %d", worth, k)
			}
		})
	}
}

func TestPickTheOnlyOne(t *testing.T) {
	b := newPair(4)
	for _, w := range []int{1, 2, 1 << 31, 1<<31 + 1, math.MaxInt} {
		for at := range 4 {
			worth := []int{0, -1, math.MinInt, 0}
			worth[at] = w
			b.drawnBy(t, 1, func() {
				if k := b.s.Pick(worth); k != at {
					t.Errorf("Pick(%v): %d", worth, k)
				}
				b.p.word()
			})
		}
	}
}

func TestPickRows(t *testing.T) {
	for _, worth := range [][]int{
		{1, 1}, {1, 2, 3}, {3, 2, 1}, {0, 1, 0, 1, 0}, {5, 0, 0}, {1, -7, 1}, {-7, 1, -7, 2}, {1, 1, 1, 1, 1, 1, 1},
		{1 << 31, 1 << 31}, {1<<31 + 1, 1 << 31}, {1 << 31, 1<<31 + 1, 1<<31 - 1}, {1 << 40, 1}, {1, 1 << 40},
		{math.MaxInt, math.MaxInt}, {math.MaxInt, 1 << 30, math.MinInt, 1 << 30}, {math.MinInt, math.MaxInt, -1, math.MaxInt, math.MaxInt},
	} {
		b := newPair(len(worth))
		for range 100 {
			b.drawnBy(t, 1, func() { b.pick(t, worth...) })
		}
	}
}

// Sums that stand just at what is drawn: the place of a number is the first whose sum is above it.
func TestPickAtItsEdges(t *testing.T) {
	for n := 2; n < 40; n++ {
		for seed := range 30 {
			at := newPlain(seed).below(n)
			for edge := 1; edge < n; edge++ {
				want := 0
				if at >= edge {
					want = 1
				}
				if k := draw.New(seed).Pick([]int{edge, n - edge}); k != want {
					t.Fatalf("%d of %d, edge %d: %d", at, n, edge, k)
				}
			}
		}
	}
}

func TestPickAnyRow(t *testing.T) {
	r := rand.New(rand.NewSource(2))
	b := newPair(11)
	for range 4000 {
		worth := make([]int, r.Intn(20))
		for i := range worth {
			worth[i] = int(r.Uint64()) >> r.Intn(64)
		}
		b.pick(t, worth...)
	}
	b.word(t)
}

func TestPickOfMany(t *testing.T) {
	b := newPair(12)
	worth := slices.Repeat([]int{math.MaxInt}, 200000)
	for range 3 {
		b.pick(t, worth...)
	}
	b.word(t)
}

func TestPickComesToEachThatCounts(t *testing.T) {
	s := draw.New(13)
	var times [7]int
	for range 1000 {
		times[s.Pick([]int{0, 3, -4, 1, 1, 0, 2})]++
	}
	for i, n := range times {
		if (n > 0) != (i == 1 || i == 3 || i == 4 || i == 6) {
			t.Error(times)
		}
	}
}

func TestPickLeavesItsListAsItIs(t *testing.T) {
	want := []int{math.MaxInt, -4, 0, 9, 77, -78}
	room := slices.Clone(want)
	s := draw.New(1)
	for range 20 {
		s.Pick(room[:4])
	}
	if !slices.Equal(room, want) {
		t.Error(room)
	}
	// Nor is it kept: what is picked from hangs on the list of that call alone.
	b := newPair(1)
	b.pick(t, room[:4]...)
	room[0], room[1] = 0, 5
	b.pick(t, room[:4]...)
	b.pick(t, room...)
}

func TestRow(t *testing.T) {
	for n := range 130 {
		b := newPair(n)
		b.drawnBy(t, max(0, n-1), func() { b.row(t, n) })
		b.drawnBy(t, max(0, n-1), func() { b.row(t, n) })
	}
	for _, seed := range seeds {
		b := newPair(seed)
		b.row(t, 12)
		b.word(t)
	}
}

func TestRowOfNone(t *testing.T) {
	b := newPair(6)
	for _, n := range []int{0, -1, -10000, -1 << 32, math.MinInt} {
		b.drawnBy(t, 0, func() {
			if l := b.s.Row(n); len(l) != 0 {
				t.Errorf("Row(%d): %v", n, l)
			}
		})
	}
}

func TestRowOfOneDrawsNothing(t *testing.T) {
	b := newPair(7)
	b.drawnBy(t, 0, func() { b.row(t, 1) })
	b.drawnBy(t, 1, func() { b.row(t, 2) })
}

func TestRowIsNotTooLong(t *testing.T) {
	for _, n := range []int{9999, 10000, 10001, 20000, 1 << 31, 1<<32 + 3, math.MaxInt} {
		b := newPair(8)
		b.drawnBy(t, min(n, 10000)-1, func() { b.row(t, n) })
	}
}

func TestRowIsNewMemory(t *testing.T) {
	b := newPair(9)
	first := b.s.Row(50)
	kept := slices.Clone(b.p.row(50))
	second := b.s.Row(50)
	if !slices.Equal(first, kept) {
		t.Error("the next row writes into the last one")
	}
	clear(first[:cap(first)])
	if !slices.Equal(second, b.p.row(50)) {
		t.Error("rows share their memory")
	}
	b.row(t, 50)
}

// P4.3

func TestFork(t *testing.T) {
	for _, seed := range seeds {
		b := newPair(seed)
		b.drawnBy(t, 1, func() { b.fork(t) })
		word := draw.New(seed).Word()
		f, w := draw.New(seed).Fork(), draw.New(int(word))
		for range 10 {
			if x, y := f.Word(), w.Word(); x != y {
				t.Fatalf("seed %d: %x; want %x", seed, x, y)
			}
		}
	}
}

func TestForksAreApart(t *testing.T) {
	b := newPair(10)
	f := b.fork(t)
	g := b.fork(t)
	h := f.fork(t)
	for i := range 40 {
		b.word(t)
		f.below(t, i)
		if i%2 == 0 {
			g.pick(t, i, 3, -i)
		}
		if i%3 == 0 {
			h.row(t, i)
		}
	}
	for _, s := range []pair{h, g, f, b} {
		s.word(t)
	}
}

// P4.4

func TestRowHasEachNumberOnce(t *testing.T) {
	s := draw.New(14)
	for _, n := range []int{1, 2, 3, 4, 5, 17, 64, 100, 1000, 9999, 10000, 10001, math.MaxInt} {
		l := s.Row(n)
		if len(l) != min(n, 10000) {
			t.Fatalf("Row(%d) has %d", n, len(l))
		}
		slices.Sort(l)
		for i, k := range l {
			if k != i {
				t.Fatalf("Row(%d): %d stands for %d", n, k, i)
			}
		}
	}
}

func TestEachRowOfFewComesUp(t *testing.T) {
	s := draw.New(15)
	times := map[[4]int]int{}
	for range 2400 {
		times[[4]int(s.Row(4))]++
	}
	if len(times) != 24 {
		t.Errorf("%d rows of 24", len(times))
	}
	for row, n := range times {
		if n < 40 || n > 200 {
			t.Errorf("%v comes up %d times of 2400", row, n)
		}
	}
}

// What a call answers hangs on the seed and on what was asked before, on nothing else (R5).

func TestAnyCallsInAnyRow(t *testing.T) {
	r := rand.New(rand.NewSource(3))
	for _, seed := range seeds {
		b := newPair(seed)
		for range 300 {
			switch n := r.Intn(30) - 3; r.Intn(5) {
			case 0:
				b.word(t)
			case 1:
				b.below(t, n)
			case 2:
				b.pick(t, n, r.Intn(9)-4, 0, r.Intn(3))
			case 3:
				b.row(t, n)
			default:
				f := b.fork(t)
				if n%2 == 0 {
					b = f
				}
			}
		}
	}
}

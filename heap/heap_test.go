package heap_test

import (
	"cmp"
	"math"
	"math/rand"
	"slices"
	"testing"

	"tranter/heap"
)

// plain is what a heap promises, without any order kept: each question looks at all things.
type plain[W cmp.Ordered] map[int]W

// first is the first one, by looking at all.
func (p plain[W]) first() (int, W, bool) {
	at, least, is := 0, *new(W), false
	for id, w := range p {
		if !is || w < least || w == least && id < at {
			at, least, is = id, w, true
		}
	}
	return at, least, is
}

// pair is a heap beside what it promises.
type pair[W cmp.Ordered] struct {
	h *heap.Heap[W]
	p plain[W]
}

func newPair[W cmp.Ordered]() pair[W] {
	return pair[W]{heap.New[W](), plain[W]{}}
}

func (b pair[W]) put(t *testing.T, id int, w W) {
	t.Helper()
	_, was := b.p[id]
	if !was {
		b.p[id] = w
	}
	if got := b.h.Put(id, w); got == was {
		t.Fatalf("Put(%d, %v): %v", id, w, got)
	}
}

func (b pair[W]) change(t *testing.T, id int, w W) {
	t.Helper()
	_, was := b.p[id]
	if was {
		b.p[id] = w
	}
	if got := b.h.Change(id, w); got != was {
		t.Fatalf("Change(%d, %v): %v", id, w, got)
	}
}

func (b pair[W]) drop(t *testing.T, id int) {
	t.Helper()
	_, was := b.p[id]
	delete(b.p, id)
	if got := b.h.Drop(id); got != was {
		t.Fatalf("Drop(%d): %v", id, got)
	}
}

func (b pair[W]) take(t *testing.T) {
	t.Helper()
	id, w, is := b.p.first()
	delete(b.p, id)
	if gotID, gotW, got := b.h.Take(); gotID != id || gotW != w || got != is {
		t.Fatalf("Take: %d %v %v; want %d %v %v", gotID, gotW, got, id, w, is)
	}
}

// same asks the heap everything that does not change it.
func (b pair[W]) same(t *testing.T, ids ...int) {
	t.Helper()
	if got := b.h.Len(); got != len(b.p) {
		t.Fatalf("Len: %d; want %d", got, len(b.p))
	}
	for _, id := range ids {
		want, was := b.p[id]
		if w, is := b.h.Worth(id); w != want || is != was {
			t.Fatalf("Worth(%d): %v %v; want %v %v", id, w, is, want, was)
		}
	}
	id, w, is := b.p.first()
	if gotID, gotW, got := b.h.First(); gotID != id || gotW != w || got != is {
		t.Fatalf("First: %d %v %v; want %d %v %v", gotID, gotW, got, id, w, is)
	}
}

// empty takes all there are, and one more.
func (b pair[W]) empty(t *testing.T, ids ...int) {
	t.Helper()
	for range len(b.p) + 1 {
		b.take(t)
		b.same(t, ids...)
	}
}

// walk does so many things by chance, with all that is asked looked at behind each.
func walk[W cmp.Ordered](t *testing.T, r *rand.Rand, steps int, ids []int, worth func() W) {
	t.Helper()
	b := newPair[W]()
	for range steps {
		id := ids[r.Intn(len(ids))]
		switch r.Intn(9) {
		case 0, 1, 2, 3:
			b.put(t, id, worth())
		case 4, 5:
			b.change(t, id, worth())
		case 6, 7:
			b.drop(t, id)
		default:
			b.take(t)
		}
		b.same(t, ids...)
	}
	b.empty(t, ids...)
}

// rising are the numbers from 0 on.
func rising(n int) []int {
	l := make([]int, n)
	for i := range l {
		l[i] = i
	}
	return l
}

var edgeIDs = []int{math.MinInt, math.MinInt + 1, -1 << 32, -2, -1, 0, 1, 2, 1 << 32, math.MaxInt - 1, math.MaxInt}

// P3.1

func TestNewIsWithoutThings(t *testing.T) {
	h := heap.New[int]()
	if h == nil || h.Len() != 0 {
		t.Fatal("New is not empty")
	}
	for _, id := range edgeIDs {
		if w, is := h.Worth(id); w != 0 || is {
			t.Errorf("Worth(%d): %d %v", id, w, is)
		}
		if h.Drop(id) || h.Change(id, 1) || h.Len() != 0 {
			t.Errorf("%d is there", id)
		}
	}
}

func TestPut(t *testing.T) {
	h := heap.New[int]()
	if !h.Put(7, 3) || h.Len() != 1 {
		t.Fatal("7 is not put")
	}
	if w, is := h.Worth(7); w != 3 || !is {
		t.Error(w, is)
	}
	if _, is := h.Worth(3); is {
		t.Error("a worth is no number")
	}
}

func TestPutTwiceChangesNothing(t *testing.T) {
	for _, again := range []int{-9, 2, 3, 4, 9} {
		b := newPair[int]()
		b.put(t, 7, 3)
		b.put(t, 8, 4)
		b.put(t, 7, again)
		b.same(t, 7, 8)
		b.empty(t, 7, 8)
	}
}

func TestChange(t *testing.T) {
	for _, to := range []int{math.MinInt, -1, 0, 1, 2, 3, 4, 5, 9, math.MaxInt} {
		for id := range 8 {
			b := newPair[int]()
			for i, w := range []int{2, 4, 1, 3, 3, 0, 5} {
				b.put(t, i, w)
			}
			b.change(t, id, to)
			b.same(t, rising(9)...)
			b.empty(t, rising(9)...)
		}
	}
}

func TestDrop(t *testing.T) {
	for id := -1; id < 13; id++ {
		b := newPair[int]()
		// The last one has to rise when it comes in the place of one dropped on the other side.
		for i, w := range []int{0, 50, 1, 60, 55, 2, 3, 65, 61, 58, 57, 4} {
			b.put(t, i, w)
		}
		b.drop(t, id)
		b.same(t, rising(13)...)
		b.drop(t, id)
		b.change(t, id, 7)
		b.same(t, rising(13)...)
		b.empty(t, rising(13)...)
	}
}

func TestDropTheOnlyOne(t *testing.T) {
	b := newPair[int]()
	b.put(t, 4, 1)
	b.drop(t, 4)
	b.same(t, 4, 0)
	b.empty(t, 4, 0)
}

func TestPutAgain(t *testing.T) {
	b := newPair[int]()
	b.put(t, 1, 5)
	b.put(t, 2, 4)
	b.drop(t, 1)
	b.put(t, 1, 3)
	b.take(t)
	b.put(t, 1, 9)
	b.same(t, 1, 2)
	b.empty(t, 1, 2)
	b.put(t, 1, 0)
	b.same(t, 1, 2)
}

func TestAnyNumbersAndWorths(t *testing.T) {
	b := newPair[int]()
	for i, id := range edgeIDs {
		b.put(t, id, edgeIDs[len(edgeIDs)-1-i])
		b.same(t, edgeIDs...)
	}
	b.change(t, math.MinInt, math.MinInt)
	b.change(t, math.MaxInt, math.MaxInt)
	b.same(t, edgeIDs...)
	b.empty(t, edgeIDs...)
}

func TestNoneHasTheZeroWorth(t *testing.T) {
	s := heap.New[string]()
	s.Put(1, "a")
	s.Drop(1)
	if w, is := s.Worth(1); w != "" || is {
		t.Error(w, is)
	}
	if id, w, is := s.First(); id != 0 || w != "" || is {
		t.Error(id, w, is)
	}
	if id, w, is := s.Take(); id != 0 || w != "" || is {
		t.Error(id, w, is)
	}
}

func TestHeapsAreApart(t *testing.T) {
	a, b := newPair[int](), newPair[int]()
	a.put(t, 1, 2)
	b.same(t, 1, 3)
	b.put(t, 3, 4)
	a.same(t, 1, 3)
	a.take(t)
	b.same(t, 1, 3)
	b.put(t, 1, 9)
	a.same(t, 1, 3)
}

// P3.2

func TestFirstTakesNothing(t *testing.T) {
	h := heap.New[int]()
	h.Put(9, 2)
	h.Put(8, 2)
	for range 3 {
		if id, w, is := h.First(); id != 8 || w != 2 || !is || h.Len() != 2 {
			t.Fatal(id, w, is, h.Len())
		}
	}
}

func TestTake(t *testing.T) {
	h := heap.New[int]()
	h.Put(7, 3)
	h.Put(2, 3)
	h.Put(5, 1)
	for i, want := range [][2]int{{5, 1}, {2, 3}, {7, 3}} {
		if id, w, is := h.Take(); id != want[0] || w != want[1] || !is || h.Len() != 2-i {
			t.Error(id, w, is, h.Len())
		}
		if _, is := h.Worth(want[0]); is {
			t.Error(want[0], "is there still")
		}
	}
	for range 2 {
		if id, w, is := h.Take(); id != 0 || w != 0 || is || h.Len() != 0 {
			t.Error(id, w, is, h.Len())
		}
	}
}

func TestSameWorthByNumber(t *testing.T) {
	r := rand.New(rand.NewSource(3))
	for range 50 {
		b := newPair[int]()
		for _, i := range r.Perm(len(edgeIDs)) {
			b.put(t, edgeIDs[i], 4)
		}
		b.empty(t, edgeIDs...)
	}
}

func TestChangeAmongTheSame(t *testing.T) {
	h := heap.New[int]()
	h.Put(5, 3)
	h.Put(6, 3)
	h.Put(4, 8)
	h.Change(4, 3)
	if id, _, _ := h.First(); id != 4 {
		t.Error(id)
	}
	h.Change(4, 4)
	if id, _, _ := h.First(); id != 5 {
		t.Error(id)
	}
}

func TestOtherKindsOfWorths(t *testing.T) {
	r := rand.New(rand.NewSource(4))
	ids := rising(12)
	floats := []float64{math.Inf(-1), -math.MaxFloat64, -1, -math.SmallestNonzeroFloat64, math.Copysign(0, -1), 0, math.SmallestNonzeroFloat64, 0.1, math.MaxFloat64, math.Inf(1)}
	walk(t, r, 2000, ids, func() float64 { return floats[r.Intn(len(floats))] })
	texts := []string{"", "\x00", "a", "aa", "ab", "b", "é", "\xff"}
	walk(t, r, 2000, ids, func() string { return texts[r.Intn(len(texts))] })
	walk(t, r, 2000, ids, func() uint64 { return r.Uint64() })
	walk(t, r, 2000, ids, func() int8 { return int8(r.Intn(256)) })
	type price int32
	walk(t, r, 2000, ids, func() price { return price(r.Intn(5) - 2) })
}

func TestZerosAreTheSame(t *testing.T) {
	below := math.Copysign(0, -1)
	for _, w := range [][2]float64{{0, below}, {below, 0}, {0, 0}, {below, below}} {
		h := heap.New[float64]()
		h.Put(2, w[0])
		h.Put(1, w[1])
		if id, _, _ := h.First(); id != 1 {
			t.Error(w, id)
		}
	}
}

// P3.3

// places are the places of worths, each found by looking at all that are left.
func places(worth []int) []int {
	p := plain[int]{}
	for i, w := range worth {
		p[i] = w
	}
	var l []int
	for id, _, is := p.first(); is; id, _, is = p.first() {
		l = append(l, id)
		delete(p, id)
	}
	return l
}

func TestSorted(t *testing.T) {
	for _, c := range []struct{ worth, want []int }{
		{nil, nil}, {[]int{}, nil}, {[]int{5}, []int{0}}, {[]int{1, 2}, []int{0, 1}}, {[]int{2, 1}, []int{1, 0}}, {[]int{1, 1, 1}, []int{0, 1, 2}},
		{[]int{3, 1, 3, 0}, []int{3, 1, 0, 2}}, {[]int{0, -1, 0, -1}, []int{1, 3, 0, 2}},
		{[]int{math.MaxInt, math.MinInt, 0, math.MinInt, math.MaxInt}, []int{1, 3, 2, 0, 4}},
		{[]int{math.MaxInt, -1, math.MinInt, 1}, []int{2, 1, 3, 0}},
	} {
		if got := heap.Sorted(c.worth); !slices.Equal(got, c.want) {
			t.Errorf("Sorted(%v): %v; want %v", c.worth, got, c.want)
		}
	}
}

func TestSortedAnyRow(t *testing.T) {
	r := rand.New(rand.NewSource(5))
	for n := range 120 {
		for _, kinds := range []int{1, 2, 5, 1 << 40} {
			worth := make([]int, n)
			for i := range worth {
				worth[i] = r.Intn(kinds) - kinds/2
			}
			if got, want := heap.Sorted(worth), places(worth); !slices.Equal(got, want) {
				t.Fatalf("Sorted(%v): %v; want %v", worth, got, want)
			}
		}
	}
}

func TestSortedLeavesItsListAsItIs(t *testing.T) {
	room := []int{5, 1, 3, 9, 8}
	got := heap.Sorted(room[:3])
	if !slices.Equal(room, []int{5, 1, 3, 9, 8}) {
		t.Error(room)
	}
	got[0], got[1], got[2] = 7, 7, 7
	if again := heap.Sorted(room[:3]); !slices.Equal(again, []int{1, 2, 0}) || !slices.Equal(room, []int{5, 1, 3, 9, 8}) {
		t.Error(again, room)
	}
}

// P3.4

func TestAllRowsOfFew(t *testing.T) {
	// Every row of up to six things of four worths, dropped or changed at every place.
	for n := range 7 {
		for code := range 1 << (2 * n) {
			b := newPair[int]()
			for i := range n {
				b.put(t, (i*5)%7, code>>(2*i)&3)
			}
			if n > 0 && code%3 == 0 {
				b.drop(t, (code%n*5)%7)
			} else if n > 0 && code%3 == 1 {
				b.change(t, (code%n*5)%7, code%5)
			}
			b.empty(t)
		}
	}
}

func TestTakenInOrder(t *testing.T) {
	r := rand.New(rand.NewSource(6))
	for _, ids := range [][]int{rising(1), rising(2), rising(5), rising(40), edgeIDs} {
		for _, kinds := range []int{1, 3, 1000} {
			walk(t, r, 3000, ids, func() int { return r.Intn(kinds) - kinds/2 })
		}
	}
}

func TestManyTakenInOrder(t *testing.T) {
	r := rand.New(rand.NewSource(7))
	h := heap.New[int]()
	for _, id := range r.Perm(30000) {
		h.Put(id, r.Intn(5000))
	}
	for range 10000 {
		h.Change(r.Intn(30000), r.Intn(5000))
		h.Drop(r.Intn(30000))
	}
	n, last, before := h.Len(), math.MinInt, -1
	for range n {
		id, w, is := h.Take()
		if !is || w < last || w == last && id <= before {
			t.Fatalf("%d of %d behind %d of %d", id, w, before, last)
		}
		last, before = w, id
	}
	if _, _, is := h.Take(); is || h.Len() != 0 {
		t.Error("not empty")
	}
}

// What is taken hangs on the things alone, not on how they came to be there.
func TestTakenHoweverItCame(t *testing.T) {
	r := rand.New(rand.NewSource(8))
	for range 200 {
		worth := make([]int, 25)
		for i := range worth {
			worth[i] = r.Intn(6)
		}
		var told [3][][2]int
		for i := range told {
			h := heap.New[int]()
			for _, id := range r.Perm(len(worth) + 10) {
				h.Put(id, r.Intn(6))
			}
			for _, id := range r.Perm(len(worth) + 10) {
				if id < len(worth) {
					h.Change(id, worth[id])
				} else {
					h.Drop(id)
				}
			}
			for range worth {
				id, w, _ := h.Take()
				told[i] = append(told[i], [2]int{id, w})
			}
		}
		if !slices.Equal(told[0], told[1]) || !slices.Equal(told[1], told[2]) {
			t.Fatalf("%v: %v", worth, told)
		}
	}
}

package inst_test

import (
	"math"
	"math/rand"
	"slices"
	"strconv"
	"testing"

	"tranter/api"
	"tranter/inst"
)

const (
	most   = 1 << 31 // any magnitude
	allDay = math.MaxUint64
)

// some is an instance that may be, of both kinds and both rules.
func some() api.Instance {
	return api.Instance{Days: 5, Vehicles: 2, Capacity: 10, Length: 100, Customers: []api.Customer{
		{Kind: api.Periodic, Demand: 4, Patterns: []uint64{5, 2, 24}},
		{Kind: api.Tank, Rate: 2, Size: 6, Start: 3, Rule: api.FillUp, Hold: 1},
		{Kind: api.Tank, Rate: 1, Size: 9, Start: 9, Rule: api.AnyUp, Hold: 7},
	}, Dist: [][]int{{0, 5, 9, 4}, {6, 0, 2, 8}, {8, 3, 0, 7}, {1, 6, 5, 0}}}
}

// square is as many rows of as many numbers, drawn below one, with 0 from each place to itself.
func square(r *rand.Rand, places, below int) [][]int {
	d := make([][]int, places)
	for a := range d {
		d[a] = make([]int, places)
		for b := range d[a] {
			if a != b {
				d[a][b] = r.Intn(below)
			}
		}
	}
	return d
}

// drawn is an instance that may be, of so many customers.
func drawn(r *rand.Rand, customers, below int) api.Instance {
	x := api.Instance{Days: 1 + r.Intn(64), Vehicles: r.Intn(9), Capacity: r.Intn(most + 1), Length: r.Intn(most + 1), Dist: square(r, customers+1, below)}
	for range customers {
		x.Customers = append(x.Customers, drawnCustomer(r, x.Days))
	}
	return x
}

// drawnCustomer is a customer that may be, if there are so many days.
func drawnCustomer(r *rand.Rand, days int) api.Customer {
	if r.Intn(2) == 0 {
		c := api.Customer{Kind: api.Periodic, Demand: 1 + r.Intn(most)}
		for range 1 + r.Intn(64) {
			c.Patterns = append(c.Patterns, r.Uint64()>>(64-days))
		}
		return c
	}
	size := 1 + r.Intn(most)
	return api.Customer{Kind: api.Tank, Rate: r.Intn(most + 1), Size: size, Start: r.Intn(size + 1), Rule: 1 + r.Intn(2), Hold: r.Intn(1025)}
}

// taken is what is in an instance at every depth, as one text; made here, so that a copy by Clone is not held against itself.
func taken(x api.Instance) string {
	var t []byte
	tell := func(l ...int) {
		for _, n := range l {
			t = append(strconv.AppendInt(t, int64(n), 10), ' ')
		}
		t = append(t, '\n')
	}
	tell(x.Days, x.Vehicles, x.Capacity, x.Length, len(x.Customers), len(x.Dist))
	for _, c := range x.Customers {
		tell(c.Kind, c.Demand, c.Rate, c.Size, c.Start, c.Rule, c.Hold)
		for _, p := range c.Patterns {
			t = append(strconv.AppendUint(t, p, 16), ' ')
		}
		t = append(t, '\n')
	}
	for _, row := range x.Dist {
		tell(row...)
	}
	return string(t)
}

// field is one number of an instance, and its bounds.
type field struct {
	name        string
	of          func(x *api.Instance) *int
	least, most int
}

// fields are the numbers of the instance that some tells; the place of its customers: periodic 0, tanks 1 and 2.
func fields() []field {
	l := []field{
		{"Days", func(x *api.Instance) *int { return &x.Days }, 5, 64}, // a pattern of its has the day 4
		{"Vehicles", func(x *api.Instance) *int { return &x.Vehicles }, 0, most},
		{"Capacity", func(x *api.Instance) *int { return &x.Capacity }, 0, most},
		{"Length", func(x *api.Instance) *int { return &x.Length }, 0, most},
		{"Demand", func(x *api.Instance) *int { return &x.Customers[0].Demand }, 1, most},
		{"periodic Kind", func(x *api.Instance) *int { return &x.Customers[0].Kind }, 1, 1},
		{"periodic Rate", func(x *api.Instance) *int { return &x.Customers[0].Rate }, 0, 0},
		{"periodic Size", func(x *api.Instance) *int { return &x.Customers[0].Size }, 0, 0},
		{"periodic Start", func(x *api.Instance) *int { return &x.Customers[0].Start }, 0, 0},
		{"periodic Rule", func(x *api.Instance) *int { return &x.Customers[0].Rule }, 0, 0},
		{"periodic Hold", func(x *api.Instance) *int { return &x.Customers[0].Hold }, 0, 0},
	}
	for i := 1; i <= 2; i++ {
		start := []int{0, 3, 9}[i]
		size := []int{0, 6, 9}[i]
		l = append(l,
			field{"tank Kind", func(x *api.Instance) *int { return &x.Customers[i].Kind }, 2, 2},
			field{"tank Demand", func(x *api.Instance) *int { return &x.Customers[i].Demand }, 0, 0},
			field{"Rate", func(x *api.Instance) *int { return &x.Customers[i].Rate }, 0, most},
			field{"Size", func(x *api.Instance) *int { return &x.Customers[i].Size }, start, most},
			field{"Start", func(x *api.Instance) *int { return &x.Customers[i].Start }, 0, size},
			field{"Rule", func(x *api.Instance) *int { return &x.Customers[i].Rule }, 1, 2},
			field{"Hold", func(x *api.Instance) *int { return &x.Customers[i].Hold }, 0, 1024},
		)
	}
	for a := range 4 {
		for b := range 4 {
			f := field{"Dist " + strconv.Itoa(a) + " " + strconv.Itoa(b), func(x *api.Instance) *int { return &x.Dist[a][b] }, 0, most}
			if a == b {
				f.most = 0
			}
			l = append(l, f)
		}
	}
	return l
}

// mays holds May to whether an instance may be, and to leaving it as it is.
func mays(t *testing.T, name string, x api.Instance, is bool) {
	t.Helper()
	was := taken(x)
	want := api.ErrRange
	if is {
		want = api.OK
	}
	if e := inst.May(x); e != want {
		t.Errorf("%s: %v; want %v", name, e, want)
	}
	if taken(x) != was {
		t.Errorf("%s: it is changed", name)
	}
}

// P6.1

func TestMayAtTheBoundsOfEachNumber(t *testing.T) {
	mays(t, "some", some(), true)
	for _, f := range fields() {
		for _, n := range []int{f.least, f.least + 1, f.most - 1, f.most, f.least - 1, f.most + 1, f.least - 2, f.most + 2, -1, 0, 1, 2, 3, 64, 65, 1024, 1025,
			most - 1, most, most + 1, 1 << 32, 1<<32 + f.least, 1<<32 + f.most, 1 << 62, math.MaxInt, math.MaxInt - 1, math.MinInt, math.MinInt + 1, math.MinInt + f.most, -most, -most - 1} {
			x := some()
			*f.of(&x) = n
			mays(t, f.name+" "+strconv.Itoa(n), x, f.least <= n && n <= f.most)
		}
	}
}

func TestMayOfFewDays(t *testing.T) {
	x := some()
	x.Customers[0].Patterns = []uint64{1, 0}
	tanks := some()
	tanks.Customers[0] = tanks.Customers[1]
	empty := api.Instance{Dist: [][]int{{0}}}
	for n, is := range map[int]bool{math.MinInt: false, -1: false, 0: false, 1: true, 2: true, 63: true, 64: true, 65: false, 1<<32 + 1: false, math.MaxInt: false} {
		x.Days, tanks.Days, empty.Days = n, n, n
		mays(t, "days "+strconv.Itoa(n), x, is)
		mays(t, "of tanks alone, days "+strconv.Itoa(n), tanks, is)
		mays(t, "of nobody, days "+strconv.Itoa(n), empty, is)
	}
}

func TestMayOfNoCustomers(t *testing.T) {
	x := api.Instance{}
	mays(t, "nothing", x, false)
	x.Days = 1
	mays(t, "no distances", x, false)
	for _, c := range []struct {
		name string
		dist [][]int
		is   bool
	}{
		{"the depot", [][]int{{0}}, true}, {"an arc to itself", [][]int{{1}}, false}, {"one below 0", [][]int{{-1}}, false},
		{"empty", [][]int{}, false}, {"no row", [][]int{nil}, false}, {"an empty row", [][]int{{}}, false}, {"too long", [][]int{{0, 0}}, false},
		{"too many", [][]int{{0}, {0}}, false}, {"square, but too many", [][]int{{0, 1}, {1, 0}}, false},
	} {
		x.Dist = c.dist
		x.Customers = nil
		mays(t, c.name, x, c.is)
		x.Customers = []api.Customer{}
		mays(t, c.name+", of an empty list", x, c.is)
	}
}

func TestMayOfPatterns(t *testing.T) {
	x := some()
	try := func(name string, is bool, l ...uint64) {
		t.Helper()
		x.Customers[0].Patterns = l
		mays(t, name, x, is)
	}
	x.Days = 5
	try("none", false)
	try("an empty list", false, []uint64{}...)
	try("one", true, 1)
	try("one without days", true, 0)
	try("all days", true, 31)
	try("the last day", true, 16)
	try("a day behind it", false, 32)
	try("another, far behind", false, 1<<63)
	try("32 bits up", false, 1<<32)
	try("all there are", false, allDay)
	try("some days, and one behind", false, 33)
	try("the same twice", true, 3, 3)
	try("falling", true, 16, 8, 4, 2, 1)
	try("the first one wrong", false, 32, 1, 2)
	try("one between wrong", false, 1, 32, 2)
	try("the last one wrong", false, 1, 2, 32)
	for n := range 67 {
		try(strconv.Itoa(n)+" of them", 1 <= n && n <= 64, slices.Repeat([]uint64{9}, n)...)
	}
	many := slices.Repeat([]uint64{9}, 64)
	many[63] = 32
	try("the last one of 64 wrong", false, many...)
	for days := 1; days <= 64; days++ {
		x.Days = days
		for d := range 64 {
			try("day "+strconv.Itoa(d)+" of "+strconv.Itoa(days), d < days, 1<<d)
			try("with others", d < days, 1, 1<<d|1)
		}
	}
	x.Days = 64
	try("all of 64", true, allDay)
	x.Days = 63
	try("all but one of 63", false, allDay)
	try("all of 63", true, allDay>>1)
}

func TestMayOfATank(t *testing.T) {
	x := some()
	try := func(name string, is bool, c api.Customer) {
		t.Helper()
		x.Customers[1] = c
		mays(t, name, x, is)
	}
	try("the least", true, api.Customer{Kind: api.Tank, Size: 1, Rule: api.FillUp})
	try("the greatest", true, api.Customer{Kind: api.Tank, Rate: most, Size: most, Start: most, Rule: api.AnyUp, Hold: 1024})
	try("nothing taken", true, api.Customer{Kind: api.Tank, Size: 5, Start: 5, Rule: api.AnyUp})
	try("more taken than it holds", true, api.Customer{Kind: api.Tank, Rate: 9, Size: 5, Start: 2, Rule: api.FillUp})
	try("an empty list of patterns", true, api.Customer{Kind: api.Tank, Size: 5, Rule: api.FillUp, Patterns: []uint64{}})
	try("a pattern", false, api.Customer{Kind: api.Tank, Size: 5, Rule: api.FillUp, Patterns: []uint64{1}})
	try("a pattern without days", false, api.Customer{Kind: api.Tank, Size: 5, Rule: api.FillUp, Patterns: []uint64{0}})
	try("a demand", false, api.Customer{Kind: api.Tank, Size: 5, Rule: api.FillUp, Demand: 1})
	try("too full", false, api.Customer{Kind: api.Tank, Size: 5, Start: 6, Rule: api.FillUp})
	try("too great", false, api.Customer{Kind: api.Tank, Size: most + 1, Start: most + 1, Rule: api.FillUp})
	try("no size", false, api.Customer{Kind: api.Tank, Rule: api.FillUp})
	try("below 0", false, api.Customer{Kind: api.Tank, Size: -1, Start: -1, Rule: api.FillUp})
	try("nothing", false, api.Customer{})
	for kind := -1; kind <= 4; kind++ {
		try("a kind with a tank", kind == api.Tank, api.Customer{Kind: kind, Size: 5, Rule: api.FillUp})
		try("a kind with a pattern", kind == api.Periodic, api.Customer{Kind: kind, Demand: 1, Patterns: []uint64{1}})
		try("a kind with both", false, api.Customer{Kind: kind, Demand: 1, Patterns: []uint64{1}, Size: 5, Rule: api.FillUp})
		try("a kind alone", false, api.Customer{Kind: kind})
	}
}

func TestMayLooksAtEachCustomer(t *testing.T) {
	r := rand.New(rand.NewSource(1))
	x := drawn(r, 30, 100)
	mays(t, "drawn", x, true)
	for i := range x.Customers {
		was := x.Customers[i]
		x.Customers[i].Kind = 3 - was.Kind
		mays(t, "of the other kind", x, false)
		x.Customers[i] = api.Customer{}
		mays(t, "nothing", x, false)
		x.Customers[i] = was
	}
	mays(t, "as it was", x, true)
}

func TestMayOfDistances(t *testing.T) {
	for i, turn := range []func(x *api.Instance){
		func(x *api.Instance) { x.Dist = nil }, func(x *api.Instance) { x.Dist = x.Dist[:3] }, func(x *api.Instance) { x.Dist = x.Dist[1:] },
		func(x *api.Instance) { x.Dist = append(x.Dist, []int{0, 0, 0, 0}) }, func(x *api.Instance) { x.Dist = append(x.Dist, nil) },
		func(x *api.Instance) { x.Dist[0] = nil }, func(x *api.Instance) { x.Dist[3] = nil }, func(x *api.Instance) { x.Dist[2] = []int{} },
		func(x *api.Instance) { x.Dist[0] = x.Dist[0][:3] }, func(x *api.Instance) { x.Dist[3] = x.Dist[3][:3] }, func(x *api.Instance) { x.Dist[1] = x.Dist[1][:1] },
		func(x *api.Instance) { x.Dist[0] = append(x.Dist[0], 0) }, func(x *api.Instance) { x.Dist[3] = append(x.Dist[3], 7) },
		func(x *api.Instance) { x.Dist[0], x.Dist[1] = x.Dist[1], x.Dist[0] },
		func(x *api.Instance) { x.Dist = square(rand.New(rand.NewSource(2)), 5, 9) }, func(x *api.Instance) { x.Dist = square(rand.New(rand.NewSource(2)), 3, 9) },
		func(x *api.Instance) { x.Customers = x.Customers[:2] }, func(x *api.Instance) { x.Customers = append(x.Customers, x.Customers[0]) }, func(x *api.Instance) { x.Customers = nil },
	} {
		x := some()
		turn(&x)
		mays(t, strconv.Itoa(i), x, false)
	}
	x := some()
	for a := range x.Dist {
		for b := range x.Dist[a] {
			x.Dist[a][b] = 0
		}
	}
	mays(t, "no arc has a length", x, true)
}

func TestMayOfManyCustomers(t *testing.T) {
	x := api.Instance{Days: 1, Customers: slices.Repeat([]api.Customer{{Kind: api.Tank, Size: 1, Rule: api.AnyUp}}, 2000), Dist: make([][]int, 2001)}
	for a := range x.Dist {
		x.Dist[a] = make([]int, 2001)
	}
	may := func(is bool) {
		t.Helper()
		if e := inst.May(x); (e == api.OK) != is || !is && e != api.ErrRange {
			t.Error(e)
		}
	}
	may(true)
	x.Dist[2000][1999] = most
	may(true)
	x.Dist[2000][1999]++
	may(false)
	x.Dist[2000][1999] = 0
	x.Customers[1999].Hold = -1
	may(false)
	x.Customers[1999].Hold = 0
	may(true)
	x.Customers = append(x.Customers, x.Customers[0])
	for a := range x.Dist {
		x.Dist[a] = append(x.Dist[a], 0)
	}
	x.Dist = append(x.Dist, make([]int, 2002))
	may(false)
}

func TestMayOfDrawnOnes(t *testing.T) {
	r := rand.New(rand.NewSource(3))
	for n := range 300 {
		mays(t, "drawn", drawn(r, n%20, 1+r.Intn(most)), true)
	}
}

// outside are numbers that are no place, where there are so many.
func outside(places int) []int {
	return []int{-1, -2, -places, places, places + 1, 2 * places, 2001, most, 1 << 32, 1<<32 + 1, math.MaxInt, math.MaxInt - 1, math.MinInt, math.MinInt + 1}
}

func TestArc(t *testing.T) {
	x := some()
	was := taken(x)
	for a, row := range x.Dist {
		for b, want := range row {
			if got := inst.Arc(x, a, b); got != want {
				t.Errorf("from %d to %d: %d", a, b, got)
			}
		}
		for _, b := range outside(4) {
			if inst.Arc(x, a, b) != 0 || inst.Arc(x, b, a) != 0 || inst.Arc(x, b, b) != 0 {
				t.Errorf("from %d to %d, or back", a, b)
			}
		}
	}
	if taken(x) != was {
		t.Error("it is changed")
	}
}

func TestArcOfOneThatMayNotBe(t *testing.T) {
	x := api.Instance{Customers: make([]api.Customer, 3), Dist: [][]int{{7, 8}, nil, {1, 2, 3, 4, 5}}}
	for _, c := range []struct{ a, b, want int }{
		{0, 0, 7}, {0, 1, 8}, {0, 2, 0}, {0, 3, 0}, {1, 0, 0}, {1, 1, 0}, {2, 0, 1}, {2, 3, 4}, {3, 0, 0}, {3, 3, 0},
		// There is an arc, but no such customer.
		{2, 4, 0},
	} {
		if got := inst.Arc(x, c.a, c.b); got != c.want {
			t.Errorf("from %d to %d: %d; want %d", c.a, c.b, got, c.want)
		}
	}
	for _, x := range []api.Instance{{}, {Customers: make([]api.Customer, 2)}, {Dist: [][]int{}}, {Dist: [][]int{{}}}} {
		for a := -1; a < 4; a++ {
			for b := -1; b < 4; b++ {
				if inst.Arc(x, a, b) != 0 {
					t.Error(a, b)
				}
			}
		}
		if inst.Way(x, []int{0, 1, 2, 0}) != 0 || inst.Way(x, nil) != 0 {
			t.Error("a way")
		}
		inst.Cheap(x) // nothing is promised of its answer, but that there is one
	}
}

// ways holds Way to a number, and to leaving its list as it is.
func ways(t *testing.T, x api.Instance, l []int, want int) {
	t.Helper()
	was := slices.Clone(l)
	if got := inst.Way(x, l); got != want {
		t.Errorf("%.9v: %d; want %d", l, got, want)
	}
	if !slices.Equal(l, was) {
		t.Errorf("%.9v: it was %.9v", l, was)
	}
}

func TestWay(t *testing.T) {
	x := some()
	for _, c := range []struct {
		l    []int
		want int
	}{
		{nil, 0}, {[]int{}, 0}, {[]int{0}, 5 + 6}, {[]int{1}, 9 + 8}, {[]int{2}, 4 + 1},
		{[]int{0, 1}, 5 + 2 + 8}, {[]int{1, 0}, 9 + 3 + 6}, {[]int{0, 1, 2}, 5 + 2 + 7 + 1}, {[]int{2, 1, 0}, 4 + 5 + 3 + 6}, {[]int{1, 2, 0}, 9 + 7 + 6 + 6},
		// A customer again: there is no way to where one is.
		{[]int{0, 0}, 5 + 0 + 6}, {[]int{0, 1, 0}, 5 + 2 + 3 + 6}, {[]int{2, 2, 2}, 4 + 1},
		// Customers that are not there.
		{[]int{3}, 0}, {[]int{3, 4, 5}, 0}, {[]int{0, 3}, 5}, {[]int{3, 0}, 6}, {[]int{0, 3, 1}, 5 + 8}, {[]int{0, 1, 3}, 5 + 2}, {[]int{0, 1, 3, 3, 2, 0}, 5 + 2 + 6 + 6},
		{[]int{math.MaxInt}, 0}, {[]int{0, math.MaxInt, 1}, 5 + 8}, {[]int{1, math.MaxInt - 1, 1 << 32, 2}, 9 + 1},
	} {
		ways(t, x, c.l, c.want)
	}
}

func TestWayOfGreatArcs(t *testing.T) {
	const n = 1999
	x := api.Instance{Days: 1, Customers: make([]api.Customer, n), Dist: make([][]int, n+1)}
	var l []int
	for a := range x.Dist {
		x.Dist[a] = slices.Repeat([]int{most}, n+1)
		x.Dist[a][a] = 0
		l = append(l, a)
	}
	ways(t, x, l[:n], (n+1)*most)
	ways(t, x, l, n*most)
	ways(t, x, slices.Repeat([]int{5, 7}, 1<<16), (1<<17+1)*most)
}

func TestWayOfNoCustomersIsNeverAnArc(t *testing.T) {
	x := api.Instance{Dist: [][]int{{9}}}
	ways(t, x, nil, 0)
	ways(t, x, []int{}, 0)
	ways(t, x, []int{0}, 0)
}

func TestWayIsTheArcsTogether(t *testing.T) {
	r := rand.New(rand.NewSource(4))
	for n := range 500 {
		x := drawn(r, n%15, 1+r.Intn(most))
		l := make([]int, r.Intn(20))
		for i := range l {
			l[i] = r.Intn(n%15 + 2)
		}
		places := []int{0}
		for _, c := range l {
			places = append(places, c+1)
		}
		places = append(places, 0)
		want := 0
		for i := range places[1:] {
			if a, b := places[i], places[i+1]; a <= n%15 && b <= n%15 {
				want += x.Dist[a][b]
			}
		}
		ways(t, x, l, want)
	}
}

// P6.2

// cheap is what Cheap tells, by sorting the arcs of each customer.
func cheap(x api.Instance) (come, leave []int) {
	for c := range x.Customers {
		var in, out []int
		for other := range x.Dist {
			if other != c+1 {
				in = append(in, x.Dist[other][c+1])
				out = append(out, x.Dist[c+1][other])
			}
		}
		slices.Sort(in)
		slices.Sort(out)
		come, leave = append(come, in[0]), append(leave, out[0])
	}
	return come, leave
}

// cheaps holds Cheap to numbers, and to leaving its instance as it is.
func cheaps(t *testing.T, x api.Instance, come, leave []int) {
	t.Helper()
	was := taken(x)
	to, from := inst.Cheap(x)
	if !slices.Equal(to, come) || !slices.Equal(from, leave) {
		t.Errorf("%v: %v, %v; want %v, %v", x.Dist, to, from, come, leave)
	}
	if taken(x) != was {
		t.Error("it is changed")
	}
}

func TestCheap(t *testing.T) {
	tank := api.Customer{Kind: api.Tank, Size: 1, Rule: api.AnyUp}
	cheaps(t, some(), []int{3, 2, 4}, []int{2, 3, 1})
	cheaps(t, api.Instance{Days: 1, Dist: [][]int{{0}}}, nil, nil)
	// The depot is another place, too.
	cheaps(t, api.Instance{Days: 1, Customers: []api.Customer{tank}, Dist: [][]int{{0, 3}, {4, 0}}}, []int{3}, []int{4})
	cheaps(t, api.Instance{Days: 1, Customers: []api.Customer{tank}, Dist: [][]int{{0, most}, {most, 0}}}, []int{most}, []int{most})
	cheaps(t, api.Instance{Days: 1, Customers: []api.Customer{tank, tank}, Dist: [][]int{{0, 1, 2}, {3, 0, 9}, {4, 9, 0}}}, []int{1, 2}, []int{3, 4})
	// The last customer is, too.
	cheaps(t, api.Instance{Days: 1, Customers: []api.Customer{tank, tank}, Dist: [][]int{{0, 9, 9}, {9, 0, 5}, {9, 6, 0}}}, []int{6, 5}, []int{5, 6})
	// An arc of 0 to another place counts, that from a place to itself does not.
	cheaps(t, api.Instance{Days: 1, Customers: []api.Customer{tank, tank}, Dist: [][]int{{0, 9, 9}, {9, 0, 0}, {9, 7, 0}}}, []int{7, 0}, []int{0, 7})
}

func TestCheapOfDrawnOnes(t *testing.T) {
	r := rand.New(rand.NewSource(5))
	for n := range 400 {
		x := drawn(r, n%25, 1+r.Intn(most))
		come, leave := cheap(x)
		cheaps(t, x, come, leave)
	}
}

func TestCheapOfManyCustomers(t *testing.T) {
	x := drawn(rand.New(rand.NewSource(6)), 2000, most)
	come, leave := cheap(x)
	to, from := inst.Cheap(x)
	if !slices.Equal(to, come) || !slices.Equal(from, leave) {
		t.Error(len(to), len(from))
	}
}

func TestCheapIsNewMemory(t *testing.T) {
	x := some()
	to, from := inst.Cheap(x)
	for i := range to {
		to[i] = -7
	}
	_ = append(to, -8, -8, -8, -8)
	_ = append(to[:1], -8, -8, -8, -8)
	if !slices.Equal(from, []int{2, 3, 1}) {
		t.Error(from)
	}
	cheaps(t, x, []int{3, 2, 4}, []int{2, 3, 1})
}

func TestSame(t *testing.T) {
	same := func(x, y api.Instance, want bool) {
		t.Helper()
		wasX, wasY := taken(x), taken(y)
		if inst.Same(x, y) != want || inst.Same(y, x) != want {
			t.Errorf("%v and %v: %v", x, y, !want)
		}
		if taken(x) != wasX || taken(y) != wasY {
			t.Error("one is changed")
		}
	}
	same(some(), some(), true)
	same(api.Instance{}, api.Instance{}, true)
	same(some(), api.Instance{}, false)
	for _, f := range fields() {
		for _, by := range []int{1, -1, 1 << 32, math.MinInt} {
			x := some()
			*f.of(&x) += by
			same(some(), x, false)
			same(x, x, true)
		}
	}
	for _, turn := range []func(x *api.Instance){
		func(x *api.Instance) { x.Customers = nil }, func(x *api.Instance) { x.Customers = x.Customers[:2] }, func(x *api.Instance) { x.Customers = x.Customers[1:] },
		func(x *api.Instance) { x.Customers = append(x.Customers, api.Customer{}) }, func(x *api.Instance) { slices.Reverse(x.Customers) }, func(x *api.Instance) { x.Customers[2] = x.Customers[1] },
		func(x *api.Instance) { x.Customers[0].Patterns = nil }, func(x *api.Instance) { x.Customers[0].Patterns = []uint64{5, 2} }, func(x *api.Instance) { x.Customers[0].Patterns = []uint64{2, 24} },
		func(x *api.Instance) { x.Customers[0].Patterns = []uint64{2, 5, 24} }, func(x *api.Instance) { x.Customers[0].Patterns = []uint64{5, 2, 24, 0} }, func(x *api.Instance) { x.Customers[0].Patterns[2] |= 1 << 63 }, func(x *api.Instance) { x.Customers[0].Patterns[0] = 4 },
		func(x *api.Instance) { x.Customers[1].Patterns = []uint64{0} }, func(x *api.Instance) { x.Customers[2].Patterns = []uint64{5, 2, 24} },
		func(x *api.Instance) { x.Dist = nil }, func(x *api.Instance) { x.Dist = x.Dist[:3] }, func(x *api.Instance) { x.Dist = append(x.Dist, nil) }, func(x *api.Instance) { x.Dist[0], x.Dist[3] = x.Dist[3], x.Dist[0] },
		func(x *api.Instance) { x.Dist[3] = nil }, func(x *api.Instance) { x.Dist[3] = x.Dist[3][:3] }, func(x *api.Instance) { x.Dist[0] = append(x.Dist[0], 0) }, func(x *api.Instance) { x.Dist[1][0], x.Dist[1][3] = 8, 6 },
	} {
		x, y := some(), some()
		turn(&x)
		turn(&y)
		same(some(), x, false)
		same(x, y, true)
	}
}

func TestSameOfNoListAndAnEmptyOne(t *testing.T) {
	x := api.Instance{Days: 1, Customers: []api.Customer{{Kind: api.Tank}, {Patterns: []uint64{}}}, Dist: [][]int{nil, {}, {1}}}
	y := api.Instance{Days: 1, Customers: []api.Customer{{Kind: api.Tank, Patterns: []uint64{}}, {}}, Dist: [][]int{{}, nil, {1}}}
	if !inst.Same(x, y) || !inst.Same(y, x) {
		t.Error("within lists")
	}
	x = api.Instance{Customers: []api.Customer{}, Dist: [][]int{}}
	if !inst.Same(x, api.Instance{}) || !inst.Same(api.Instance{}, x) {
		t.Error("lists")
	}
	// An empty row is a row.
	x = api.Instance{Dist: [][]int{{}}}
	if inst.Same(x, api.Instance{}) || inst.Same(api.Instance{}, x) {
		t.Error("a row")
	}
	x = api.Instance{Customers: []api.Customer{{}}}
	if inst.Same(x, api.Instance{}) || inst.Same(api.Instance{}, x) {
		t.Error("a customer")
	}
}

// roomy is some, whose lists have room that is no part of them.
func roomy() (api.Instance, func() bool) {
	x := some()
	customers := append(slices.Clone(x.Customers), api.Customer{Kind: 77}, api.Customer{Kind: 78})
	x.Customers = customers[:3]
	patterns := []uint64{5, 2, 24, 77, 78}
	x.Customers[0].Patterns = patterns[:3]
	none := []uint64{77, 78}
	x.Customers[1].Patterns = none[:0]
	var rows [][]int
	for _, row := range x.Dist {
		rows = append(rows, append(slices.Clone(row), 77, 78))
	}
	dist := [][]int{rows[0][:4], rows[1][:4], rows[2][:4], rows[3][:4], {77}, {78}}
	x.Dist = dist[:4]
	return x, func() bool {
		kept := customers[3].Kind == 77 && customers[4].Kind == 78 && slices.Equal(patterns[3:], []uint64{77, 78}) && slices.Equal(none, []uint64{77, 78}) && dist[4][0] == 77 && dist[5][0] == 78
		for _, row := range rows {
			kept = kept && slices.Equal(row[4:], []int{77, 78})
		}
		return kept
	}
}

// spoil changes all that is in an instance's lists, and what is behind them.
func spoil(x api.Instance) {
	for a := range x.Dist {
		for b := range x.Dist[a] {
			x.Dist[a][b] = -9
		}
		_ = append(x.Dist[a], -8, -8, -8)
		_ = append(x.Dist[a][:0], -8, -8, -8)
	}
	for i := range x.Customers {
		for j := range x.Customers[i].Patterns {
			x.Customers[i].Patterns[j] = 99
		}
		_ = append(x.Customers[i].Patterns, 98, 98, 98)
		x.Customers[i] = api.Customer{Kind: -9}
	}
	_ = append(x.Customers, api.Customer{Kind: -8})
	_ = append(x.Dist, []int{-8})
	for a := range x.Dist {
		x.Dist[a] = nil
	}
}

func TestClone(t *testing.T) {
	x, kept := roomy()
	want := taken(some())
	y := inst.Clone(x)
	if taken(y) != want || taken(x) != want || !inst.Same(x, y) {
		t.Error(taken(y))
	}
	z := inst.Clone(y)
	spoil(y)
	if taken(x) != want || taken(z) != want || !kept() {
		t.Error("what is cloned shares what its clone has", taken(x), taken(z))
	}
	spoil(x)
	if taken(z) != want {
		t.Error("a clone shares what is cloned", taken(z))
	}
	if taken(inst.Clone(z)) != want {
		t.Error("a clone is not as it was")
	}
}

func TestNoTwoListsOfACloneShareAny(t *testing.T) {
	row := []int{1, 2, 3, 4}
	patterns := []uint64{5, 6, 7}
	x := api.Instance{Customers: []api.Customer{{Patterns: patterns}, {Patterns: patterns[:2]}, {Patterns: patterns[1:]}}, Dist: [][]int{row, row, row[:2], row[2:]}}
	y := inst.Clone(x)
	if taken(y) != taken(x) {
		t.Error(taken(y))
	}
	y.Dist[0][0], y.Dist[1][1], y.Dist[2][1], y.Dist[3][0] = 10, 20, 30, 40
	y.Dist[2] = append(y.Dist[2], 50, 60)
	y.Customers[0].Patterns[0], y.Customers[1].Patterns[1], y.Customers[2].Patterns[0] = 10, 20, 30
	y.Customers[1].Patterns = append(y.Customers[1].Patterns, 40)
	if !slices.EqualFunc(y.Dist, [][]int{{10, 2, 3, 4}, {1, 20, 3, 4}, {1, 30, 50, 60}, {40, 4}}, slices.Equal) {
		t.Error(y.Dist)
	}
	for i, want := range [][]uint64{{10, 6, 7}, {5, 20, 40}, {30, 7}} {
		if !slices.Equal(y.Customers[i].Patterns, want) {
			t.Error(i, y.Customers[i].Patterns)
		}
	}
	if !slices.Equal(row, []int{1, 2, 3, 4}) || !slices.Equal(patterns, []uint64{5, 6, 7}) {
		t.Error(row, patterns)
	}
}

func TestCloneOfAny(t *testing.T) {
	for _, x := range []api.Instance{
		{}, {Days: -1, Vehicles: math.MinInt, Capacity: math.MaxInt, Length: 5}, {Customers: []api.Customer{}, Dist: [][]int{}}, {Customers: []api.Customer{{}, {Kind: 9, Patterns: []uint64{}}, {Patterns: []uint64{allDay}}}},
		{Dist: [][]int{nil, {}, {1, 2}, nil, {3}}},
	} {
		y := inst.Clone(x)
		if taken(y) != taken(x) || !inst.Same(x, y) {
			t.Error(x, y)
		}
	}
	r := rand.New(rand.NewSource(7))
	for n := range 200 {
		x := drawn(r, n%20, 1+r.Intn(most))
		y := inst.Clone(x)
		if taken(y) != taken(x) || !inst.Same(x, y) || inst.May(y) != api.OK {
			t.Fatal(x, y)
		}
	}
}

// P6.3

// holds holds a way's price against the least arcs of its customers, each once.
func holds(t *testing.T, x api.Instance, l []int) {
	t.Helper()
	come, leave := inst.Cheap(x)
	in, out := 0, 0
	seen := map[int]struct{}{}
	for _, c := range l {
		if _, is := seen[c]; !is {
			in += come[c]
			out += leave[c]
		}
		seen[c] = struct{}{}
	}
	if w := inst.Way(x, l); w < in || w < out {
		t.Errorf("%v of %v: %d is less than %d, or %d", l, x.Dist, w, in, out)
	}
}

func TestNoWayIsCheaperThanItsLeastArcs(t *testing.T) {
	r := rand.New(rand.NewSource(8))
	for n := range 3000 {
		customers := 1 + n%12
		x := drawn(r, customers, 1+r.Intn(20))
		l := r.Perm(customers)[:r.Intn(customers+1)]
		holds(t, x, l)
		for range r.Intn(4) {
			l = append(l, r.Intn(customers))
		}
		holds(t, x, l)
	}
}

func TestAWayOfTheLeastArcsIsNoCheaperThanThey(t *testing.T) {
	// A ring, whose arcs are the least that come to, and leave, each of its places.
	const n = 9
	x := api.Instance{Days: 1, Customers: make([]api.Customer, n), Dist: make([][]int, n+1)}
	var l []int
	for a := range x.Dist {
		x.Dist[a] = slices.Repeat([]int{1000}, n+1)
		x.Dist[a][a] = 0
		x.Dist[a][(a+1)%(n+1)] = 10 + a
		l = append(l, a)
	}
	holds(t, x, l[:n])
	come, leave := inst.Cheap(x)
	if w := inst.Way(x, l[:n]); w != 10*10+45 || !slices.Equal(come, []int{10, 11, 12, 13, 14, 15, 16, 17, 18}) || !slices.Equal(leave, []int{11, 12, 13, 14, 15, 16, 17, 18, 19}) {
		t.Error(w, come, leave)
	}
}

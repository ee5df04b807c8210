package parse_test

import (
	"math"
	"math/rand"
	"regexp"
	"slices"
	"strconv"
	"strings"
	"testing"

	"tranter/api"
	"tranter/inst"
	"tranter/parse"
)

const most = 1 << 31 // any magnitude

// some is a text of both kinds and both rules; what it tells is told by someInstance.
const some = "tranter 1\n" +
	"days 5 vehicles 2 capacity 10 length 100\n" +
	"customers 4\n" +
	"visit 4 10100 01000 00011\n" +
	"tank 2 6 3 fill 1\n" +
	"tank 1 9 9 any 0\n" +
	"visit 7 00000\n" +
	"distances\n" +
	"0 5 9 4 1\n" +
	"6 0 2 8 12\n" +
	"8 3 0 7 0\n" +
	"1 6 5 0 2\n" +
	"7 7 10 1 0\n"

// someInstance is what some tells.
func someInstance() api.Instance {
	return api.Instance{Days: 5, Vehicles: 2, Capacity: 10, Length: 100, Customers: []api.Customer{
		{Kind: api.Periodic, Demand: 4, Patterns: []uint64{1 + 4, 2, 8 + 16}},
		{Kind: api.Tank, Rate: 2, Size: 6, Start: 3, Rule: api.FillUp, Hold: 1},
		{Kind: api.Tank, Rate: 1, Size: 9, Start: 9, Rule: api.AnyUp},
		{Kind: api.Periodic, Demand: 7, Patterns: []uint64{0}},
	}, Dist: [][]int{{0, 5, 9, 4, 1}, {6, 0, 2, 8, 12}, {8, 3, 0, 7, 0}, {1, 6, 5, 0, 2}, {7, 7, 10, 1, 0}}}
}

// taken is what is in an instance at every depth, as one text; no list and an empty one are one.
func taken(x api.Instance) string {
	var t strings.Builder
	tell := func(l ...int) {
		for _, n := range l {
			t.WriteString(strconv.Itoa(n) + " ")
		}
		t.WriteString("\n")
	}
	tell(x.Days, x.Vehicles, x.Capacity, x.Length, len(x.Customers), len(x.Dist))
	for _, c := range x.Customers {
		tell(c.Kind, c.Demand, c.Rate, c.Size, c.Start, c.Rule, c.Hold)
		for _, p := range c.Patterns {
			t.WriteString(strconv.FormatUint(p, 16) + " ")
		}
		t.WriteString("\n")
	}
	for _, row := range x.Dist {
		tell(row...)
	}
	return t.String()
}

const decimal = `(?:0|[1-9][0-9]*)`

// form is what a text's signs are, as far as no number hangs on another one.
var form = regexp.MustCompile(strings.ReplaceAll(`\Atranter 1\ndays (N) vehicles (N) capacity (N) length (N)\ncustomers (N)\n`+
	`((?:visit N(?: [01]+)*\n|tank N N N (?:fill|any) N\n)*)distances\n((?:N(?: N)*\n)*)\z`, "N", decimal))

// number is a decimal's number; one above every bound, if it is great.
func number(w string) int {
	n, err := strconv.Atoi(w)
	if err != nil {
		return math.MaxInt
	}
	return n
}

// lines are the words of a text's lines.
func lines(t string) [][]string {
	var l [][]string
	for line := range strings.Lines(t) {
		l = append(l, strings.Fields(line))
	}
	return l
}

// numbers are the decimals' numbers.
func numbers(l []string) []int {
	var n []int
	for _, w := range l {
		n = append(n, number(w))
	}
	return n
}

// within tells whether all are within bounds.
func within(least, most int, l ...int) bool {
	return len(l) == 0 || slices.Min(l) >= least && slices.Max(l) <= most
}

// model is what Parse must answer, made here of the document's words.
func model(t string) (api.Instance, api.Errno) {
	m := form.FindStringSubmatch(t)
	if m == nil {
		return api.Instance{}, api.ErrForm
	}
	customers, rows := lines(m[6]), lines(m[7])
	// Decimals are the same just if their signs are.
	if strconv.Itoa(len(customers)) != m[5] || len(rows) != len(customers)+1 {
		return api.Instance{}, api.ErrForm
	}
	for _, row := range rows {
		if len(row) != len(rows) {
			return api.Instance{}, api.ErrForm
		}
	}
	n := numbers(m[1:5])
	x := api.Instance{Days: n[0], Vehicles: n[1], Capacity: n[2], Length: n[3]}
	may := within(1, 64, x.Days) && within(0, most, n[1:]...) && len(customers) <= 2000
	for _, l := range customers {
		c, is := modelCustomer(l, x.Days)
		may = may && is
		x.Customers = append(x.Customers, c)
	}
	for a, row := range rows {
		x.Dist = append(x.Dist, numbers(row))
		may = may && within(0, most, x.Dist[a]...) && x.Dist[a][a] == 0
	}
	if !may {
		return api.Instance{}, api.ErrRange
	}
	return x, api.OK
}

// modelCustomer is the customer of a line that is of the form; whether it may be.
func modelCustomer(l []string, days int) (api.Customer, bool) {
	if l[0] == "tank" {
		n := numbers([]string{l[1], l[2], l[3], l[5]})
		c := api.Customer{Kind: api.Tank, Rate: n[0], Size: n[1], Start: n[2], Rule: api.FillUp, Hold: n[3]}
		if l[4] == "any" {
			c.Rule = api.AnyUp
		}
		return c, within(0, most, c.Rate) && within(1, most, c.Size) && within(0, c.Size, c.Start) && within(0, 1024, c.Hold)
	}
	c := api.Customer{Kind: api.Periodic, Demand: number(l[1])}
	may := within(1, most, c.Demand) && within(1, 64, len(l)-2)
	for _, w := range l[2:] {
		if len(w) != days || days > 64 {
			may = false
			continue
		}
		p := uint64(0)
		for d := range days {
			if w[d] == '1' {
				p |= 1 << d
			}
		}
		c.Patterns = append(c.Patterns, p)
	}
	return c, may
}

// written is the text of an instance that may be, made here of the document's words.
func written(x api.Instance) string {
	l := []string{"tranter 1", "days " + strconv.Itoa(x.Days) + " vehicles " + strconv.Itoa(x.Vehicles) + " capacity " + strconv.Itoa(x.Capacity) + " length " + strconv.Itoa(x.Length),
		"customers " + strconv.Itoa(len(x.Customers))}
	for _, c := range x.Customers {
		if c.Kind == api.Tank {
			rule := []string{"", "fill", "any"}[c.Rule]
			l = append(l, "tank "+strconv.Itoa(c.Rate)+" "+strconv.Itoa(c.Size)+" "+strconv.Itoa(c.Start)+" "+rule+" "+strconv.Itoa(c.Hold))
			continue
		}
		line := "visit " + strconv.Itoa(c.Demand)
		for _, p := range c.Patterns {
			line += " "
			for d := range x.Days {
				line += strconv.Itoa(int(p >> d & 1))
			}
		}
		l = append(l, line)
	}
	l = append(l, "distances")
	for _, row := range x.Dist {
		var w []string
		for _, n := range row {
			w = append(w, strconv.Itoa(n))
		}
		l = append(l, strings.Join(w, " "))
	}
	return strings.Join(l, "\n") + "\n"
}

// drawn is an instance that may be, of so many customers.
func drawn(r *rand.Rand, customers, below int) api.Instance {
	x := api.Instance{Days: 1 + r.Intn(64), Vehicles: r.Intn(9), Capacity: r.Intn(most + 1), Length: r.Intn(most + 1)}
	for range customers {
		x.Customers = append(x.Customers, drawnCustomer(r, x.Days))
	}
	for a := range customers + 1 {
		row := make([]int, customers+1)
		for b := range row {
			if a != b {
				row[b] = r.Intn(below)
			}
		}
		x.Dist = append(x.Dist, row)
	}
	return x
}

// drawnCustomer is a customer that may be, if there are so many days.
func drawnCustomer(r *rand.Rand, days int) api.Customer {
	if r.Intn(2) == 0 {
		c := api.Customer{Kind: api.Periodic, Demand: 1 + r.Intn(most)}
		for range 1 + r.Intn(5) {
			c.Patterns = append(c.Patterns, r.Uint64()>>(64-days))
		}
		return c
	}
	size := 1 + r.Intn(most)
	return api.Customer{Kind: api.Tank, Rate: r.Intn(most + 1), Size: size, Start: r.Intn(size + 1), Rule: 1 + r.Intn(2), Hold: r.Intn(1025)}
}

// parses holds Parse to what a text must tell.
func parses(t *testing.T, in string, want api.Instance, wrong api.Errno) {
	t.Helper()
	x, e := parse.Parse(in)
	if e != wrong {
		t.Errorf("Parse(%.300q): %v; want %v", in, e, wrong)
	}
	if taken(x) != taken(want) {
		t.Errorf("Parse(%.300q): %.300q; want %.300q", in, taken(x), taken(want))
	}
}

// refused holds Parse to an error, and to nothing beside it.
func refused(t *testing.T, in string, wrong api.Errno) {
	t.Helper()
	parses(t, in, api.Instance{}, wrong)
}

// asModelled holds Parse to the model, and tells what that says.
func asModelled(t *testing.T, in string) api.Errno {
	t.Helper()
	want, wrong := model(in)
	parses(t, in, want, wrong)
	return wrong
}

// with is some with something else in one place.
func with(t *testing.T, old, next string) string {
	t.Helper()
	if strings.Count(some, old) != 1 {
		t.Fatalf("%q stands there %d times", old, strings.Count(some, old))
	}
	return strings.Replace(some, old, next, 1)
}

// P7.1

func TestParse(t *testing.T) {
	parses(t, some, someInstance(), api.OK)
	parses(t, "tranter 1\ndays 1 vehicles 0 capacity 0 length 0\ncustomers 0\ndistances\n0\n", api.Instance{Days: 1, Dist: [][]int{{0}}}, api.OK)
	parses(t, "tranter 1\ndays 7 vehicles 1 capacity 2 length 3\ncustomers 1\ntank 2 6 3 fill 1\ndistances\n0 4\n5 0\n", api.Instance{
		Days: 7, Vehicles: 1, Capacity: 2, Length: 3, Customers: []api.Customer{{Kind: api.Tank, Rate: 2, Size: 6, Start: 3, Rule: api.FillUp, Hold: 1}}, Dist: [][]int{{0, 4}, {5, 0}}}, api.OK)
	all, last := strings.Repeat("1", 64), strings.Repeat("0", 63)+"1"
	parses(t, "tranter 1\ndays 64 vehicles 1 capacity 1 length 1\ncustomers 1\nvisit 1 "+all+" "+last+"\ndistances\n0 0\n0 0\n", api.Instance{
		Days: 64, Vehicles: 1, Capacity: 1, Length: 1, Customers: []api.Customer{{Kind: api.Periodic, Demand: 1, Patterns: []uint64{math.MaxUint64, 1 << 63}}}, Dist: [][]int{{0, 0}, {0, 0}}}, api.OK)
}

func TestParseForm(t *testing.T) {
	for _, c := range []struct{ old, next string }{
		{"tranter 1\n", ""}, {"tranter 1\n", "tranter 1\ntranter 1\n"}, {"tranter 1\n", "tranter\n"}, {"tranter 1\n", "tranter 1 1\n"}, {"tranter 1\n", "tranter 2\n"}, {"tranter 1\n", "tranter 01\n"},
		{"tranter 1\n", "Tranter 1\n"}, {"tranter 1\n", "1 tranter\n"}, {"tranter 1\n", "\ntranter 1\n"}, {"tranter 1\n", " tranter 1\n"}, {"tranter 1\n", "tranter  1\n"}, {"tranter 1\n", "tranter 1 \n"}, {"tranter 1\n", "tranter 1\r\n"}, {"tranter 1\n", "tranter\t1\n"},
		{"days 5", "days"}, {"days 5", "days 05"}, {"days 5", "days -5"}, {"days 5", "days +5"}, {"days 5", "days 5.0"}, {"days 5", "days x"}, {"days 5", "day 5"}, {"days 5", "5 days"}, {"days 5 ", ""}, {"days 5", "days 5 5"},
		{"days 5 vehicles 2", "vehicles 2 days 5"}, {"vehicles 2", "vehicles"}, {"vehicles 2", "vehicle 2"}, {"vehicles 2", "vehicles x"}, {"capacity 10", "capacity 1O"}, {"capacity 10", "capacities 10"}, {"length 100", "length 0100"}, {"length 100", "lengths 100"},
		{"length 100", "length"}, {" length 100", ""}, {"length 100", "length 100 1"}, {"length 100", "length 100 days 5"}, {" capacity 10", "\ncapacity 10"}, {"100\ncustomers", "100 customers"},
		{"customers 4", "customers 3"}, {"customers 4", "customers 5"}, {"customers 4", "customers 0"}, {"customers 4", "customers"}, {"customers 4", "customers 04"}, {"customers 4", "customers 4 4"}, {"customers 4", "customers -1"}, {"customers 4", "customer 4"}, {"customers 4\n", ""},
		{"visit 4 10100 ", "visit "}, {"visit 4 10100 01000 00011", "visit"}, {"visit 4 ", "visits 4 "}, {"visit 4 ", "tank 4 "}, {"visit 4 ", "x 4 "}, {"visit 4 ", "4 visit "}, {"visit 4 ", "visit 04 "}, {"visit 4 ", "visit x "}, {"visit 4 ", "visit -4 "},
		{"10100", "10200"}, {"10100", "1010x"}, {"10100", "-1010"}, {"00011", "00012"}, {"00011", strings.Repeat("0", 99) + "2"}, {"visit 4 10100 01000 00011\n", ""}, {"visit 4 10100", "visit 4\n10100"},
		{"tank 2 6 3 fill 1", "tank 2 6 3 fill"}, {"tank 2 6 3 fill 1", "tank 2 6 3 1"}, {"tank 2 6 3 fill 1", "tank 2 6 fill 1"}, {"tank 2 6 3 fill 1", "tank 2 6 3 fill 1 1"}, {"tank 2 6 3 fill 1", "tank 2 6 3 fill 1 01000"}, {"tank 2 6 3 fill 1", "tank"},
		{"tank 2 6 3 fill 1", "tank 2 6 fill 3 1"}, {"tank 2 6 3 fill 1", "fill 2 6 3 fill 1"}, {"tank 2 6 3 fill 1", "visit 2 6 3 fill 1"}, {"tank 2 6 3", "tank 02 6 3"}, {"tank 2 6 3", "tank 2 06 3"}, {"tank 2 6 3", "tank 2 6 03"}, {"tank 2 6 3", "tank x 6 3"},
		{"fill 1", "fill 01"}, {"fill 1", "fill x"}, {"fill 1", "fills 1"}, {"fill 1", "Fill 1"}, {"fill 1", "1 1"}, {"any 0", "all 0"}, {"any 0", "2 0"}, {"any 0", "tank 0"}, {"tank 1 9", "tank 1 9 9 any 0\ntank 1 9"},
		{"distances\n", ""}, {"distances\n", "distance\n"}, {"distances\n", "distances 5\n"}, {"distances\n", "distances\ndistances\n"}, {"distances\n", "customers\n"}, {"distances\n0", "distances 0"},
		{"0 5 9 4 1\n", "0 5 9 4\n"}, {"0 5 9 4 1\n", "0 5 9 4 1 1\n"}, {"0 5 9 4 1\n", "0 5 9 x 1\n"}, {"0 5 9 4 1\n", "00 5 9 4 1\n"}, {"0 5 9 4 1\n", "-0 5 9 4 1\n"}, {"6 0 2 8 12\n", "6 0 2 8 1 2\n"}, {"6 0 2 8 12\n", ""}, {"6 0 2 8 12\n", "6 0 2\n8 12\n"},
		{"7 7 10 1 0\n", ""}, {"7 7 10 1 0\n", "7 7 10 1 0"}, {"7 7 10 1 0\n", "7 7 10 1\n"}, {"7 7 10 1 0\n", "7 7 10 1 0\n\n"}, {"7 7 10 1 0\n", "7 7 10 1 0\n0\n"}, {"7 7 10 1 0\n", "7 7 10 1 0\n7 7 10 1 0\n"}, {"7 7 10 1 0\n", "7 7 10 1 0\ntranter 1\n"}, {"7 7 10 1 0\n", "7 7 10 1 0\x00\n"}, {"7 7 10 1 0\n", "7 7 10 1 0\n\xff"},
	} {
		refused(t, with(t, c.old, c.next), api.ErrForm)
	}
	refused(t, "", api.ErrForm)
	refused(t, "\n", api.ErrForm)
	refused(t, some+some, api.ErrForm)
	refused(t, strings.ReplaceAll(some, "\n", "\r\n"), api.ErrForm)
}

func TestParseRange(t *testing.T) {
	for _, c := range []struct{ old, next string }{
		{"days 5", "days 0"}, {"days 5", "days 4"}, {"days 5", "days 6"}, {"days 5", "days 65"}, {"days 5", "days 18446744073709551621"}, {"days 5", "days 1000000000000000005"},
		{"vehicles 2", "vehicles 2147483649"}, {"capacity 10", "capacity 2147483649"}, {"length 100", "length 2147483649"}, {"length 100", "length 18446744073709551616"}, {"length 100", "length 340282366920938463463374607431768211456"},
		{"visit 4", "visit 0"}, {"visit 4", "visit 2147483649"}, {"visit 4", "visit 18446744073709551620"}, {"visit 7 00000", "visit 7"},
		{"10100", "1010"}, {"10100", "101000"}, {"10100", "1"}, {"10100", strings.Repeat("0", 64)}, {"10100", strings.Repeat("0", 65)}, {"10100", "10100" + strings.Repeat("0", 999)}, {"00011", "0001"}, {"visit 7 00000", "visit 7" + strings.Repeat(" 00000", 65)},
		{"tank 2 6", "tank 2147483649 6"}, {"tank 2 6 3", "tank 2 0 0"}, {"tank 2 6 3", "tank 2 2147483649 3"}, {"tank 2 6 3", "tank 2 6 7"}, {"fill 1", "fill 1025"}, {"any 0", "any 99999999999999999999"},
		{"6 0 2", "6 1 2"}, {"0 5 9", "2147483648 5 9"}, {"8 12", "8 2147483649"}, {"8 12", "8 18446744073709551628"},
	} {
		refused(t, with(t, c.old, c.next), api.ErrRange)
	}
	// As many signs as there are days, but too many.
	for _, n := range []int{65, 70, 128, 1000} {
		refused(t, "tranter 1\ndays "+strconv.Itoa(n)+" vehicles 1 capacity 1 length 1\ncustomers 1\nvisit 1 "+strings.Repeat("1", n)+"\ndistances\n0 1\n1 0\n", api.ErrRange)
	}
}

func TestParseEdges(t *testing.T) {
	for _, c := range []struct {
		old, next string
		changed   func(x *api.Instance)
	}{
		{"vehicles 2", "vehicles 0", func(x *api.Instance) { x.Vehicles = 0 }},
		{"vehicles 2", "vehicles 2147483648", func(x *api.Instance) { x.Vehicles = most }},
		{"capacity 10", "capacity 2147483648", func(x *api.Instance) { x.Capacity = most }},
		{"length 100", "length 2147483648", func(x *api.Instance) { x.Length = most }},
		{"visit 4", "visit 1", func(x *api.Instance) { x.Customers[0].Demand = 1 }},
		{"visit 4", "visit 2147483648", func(x *api.Instance) { x.Customers[0].Demand = most }},
		{"10100 01000 00011", "10100", func(x *api.Instance) { x.Customers[0].Patterns = []uint64{5} }},
		{"10100 01000 00011", "10100 10100", func(x *api.Instance) { x.Customers[0].Patterns = []uint64{5, 5} }},
		{"visit 7 00000", "visit 7" + strings.Repeat(" 00000", 64), func(x *api.Instance) { x.Customers[3].Patterns = make([]uint64, 64) }},
		{"tank 2 6 3", "tank 0 6 3", func(x *api.Instance) { x.Customers[1].Rate = 0 }},
		{"tank 2 6 3", "tank 2147483648 6 3", func(x *api.Instance) { x.Customers[1].Rate = most }},
		{"tank 2 6 3", "tank 2 6 0", func(x *api.Instance) { x.Customers[1].Start = 0 }},
		{"tank 2 6 3", "tank 2 6 6", func(x *api.Instance) { x.Customers[1].Start = 6 }},
		{"tank 2 6 3", "tank 2 2147483648 2147483648", func(x *api.Instance) { x.Customers[1].Size, x.Customers[1].Start = most, most }},
		{"fill 1", "any 1", func(x *api.Instance) { x.Customers[1].Rule = api.AnyUp }},
		{"fill 1", "fill 1024", func(x *api.Instance) { x.Customers[1].Hold = 1024 }},
		{"8 12", "8 2147483648", func(x *api.Instance) { x.Dist[1][4] = most }},
	} {
		x := someInstance()
		c.changed(&x)
		parses(t, with(t, c.old, c.next), x, api.OK)
	}
}

// What is wrong in its form counts ahead of what is out of its range, whichever comes first.
func TestParseFormFirst(t *testing.T) {
	for _, wide := range [][2]string{{"days 5", "days 99"}, {"vehicles 2", "vehicles 99999999999"}, {"visit 4", "visit 0"}, {"10100", "101001"}, {"tank 2 6 3", "tank 2 6 7"}, {"6 0 2", "6 1 2"}, {"10 1 0", "10 1 5"}} {
		in := with(t, wide[0], wide[1])
		refused(t, in, api.ErrRange)
		for _, bad := range [][2]string{{"tranter 1", "tranter 2"}, {"length 100", "length 0100"}, {"customers 4", "customers 5"}, {"00011", "00012"}, {"any 0", "all 0"}, {"distances\n", ""}, {"8 3 0 7 0", "8 3 0 7"}, {"1 6 5 0 2\n", ""}} {
			refused(t, strings.Replace(in, bad[0], bad[1], 1), api.ErrForm)
		}
		refused(t, in+"0\n", api.ErrForm)
		refused(t, in[:len(in)-1], api.ErrForm)
	}
}

// A text may say that there are any number of customers, and have none.
func TestParseManyCustomersSaid(t *testing.T) {
	for _, n := range []string{"2000", "2001", "2147483647", "999999999999999999", "1000000000000000000", "9223372036854775807", "9223372036854775808", "18446744073709551615", "18446744073709551620", strings.Repeat("9", 1000)} {
		refused(t, with(t, "customers 4", "customers "+n), api.ErrForm)
	}
}

func TestParseManyCustomers(t *testing.T) {
	for _, n := range []int{2000, 2001} {
		c := strconv.Itoa(n)
		row := "0" + strings.Repeat(" 0", n) + "\n"
		in := "tranter 1\ndays 1 vehicles 1 capacity 1 length 1\ncustomers " + c + "\n" + strings.Repeat("visit 1 1\n", n) + "distances\n" + strings.Repeat(row, n+1)
		x, e := parse.Parse(in)
		if n > 2000 {
			if e != api.ErrRange || taken(x) != taken(api.Instance{}) {
				t.Errorf("%d customers: %v", n, e)
			}
			continue
		}
		if e != api.OK || len(x.Customers) != n || len(x.Dist) != n+1 || len(x.Dist[n]) != n+1 {
			t.Errorf("%d customers: %v", n, e)
		}
		if s, e := parse.Print(x); s != in || e != api.OK {
			t.Errorf("%d customers: printed otherwise: %v", n, e)
		}
	}
}

// Every text that is some with a byte less, another one, or one more.
func TestParseEveryByte(t *testing.T) {
	var told [4]int
	for i := range len(some) + 1 {
		for _, b := range []byte("015x \n-\x00\xff") {
			told[asModelled(t, some[:i]+string([]byte{b})+some[i:])]++
			if i < len(some) {
				told[asModelled(t, some[:i]+string([]byte{b})+some[i+1:])]++
			}
		}
		if i < len(some) {
			told[asModelled(t, some[:i]+some[i+1:])]++
		}
		told[asModelled(t, some[:i])]++
		told[asModelled(t, some[i:])]++
	}
	if told[api.OK] < 50 || told[api.ErrForm] < 50 || told[api.ErrRange] < 50 {
		t.Error(told)
	}
}

// changed is a text's words, with some of them other ones, dropped, doubled, or changed one for another, or some of its lines.
func changed(r *rand.Rand, in string) string {
	l := lines(in)
	pool := []string{"0", "1", "2", "3", "64", "65", "00", "01", "10", "fill", "any", "visit", "tank", "distances", "customers", "days", "tranter", "x", "2147483648", "2147483649", "18446744073709551616", l[1][1]}
	for range 1 + r.Intn(2) {
		i, j := r.Intn(len(l)), r.Intn(len(l))
		at := r.Intn(len(l[i]))
		switch r.Intn(8) {
		case 0:
			l[i] = slices.Delete(slices.Clone(l[i]), at, at+1)
		case 1:
			l[i] = slices.Insert(slices.Clone(l[i]), at, pool[r.Intn(len(pool))])
		case 2, 3, 4:
			l[i] = slices.Clone(l[i])
			l[i][at] = pool[r.Intn(len(pool))]
		case 5:
			l = slices.Delete(l, i, i+1)
		case 6:
			l = slices.Insert(l, i, l[j])
		case 7:
			l[i], l[j] = l[j], l[i]
		}
		if len(l) == 0 || slices.ContainsFunc(l, func(w []string) bool { return len(w) == 0 }) {
			break
		}
	}
	var t strings.Builder
	for _, w := range l {
		t.WriteString(strings.Join(w, " ") + "\n")
	}
	return t.String()
}

func TestParseByChance(t *testing.T) {
	r := rand.New(rand.NewSource(7))
	var told [4]int
	for range 20000 {
		x := drawn(r, r.Intn(5), 1+r.Intn(9))
		told[asModelled(t, changed(r, written(x)))]++
	}
	if told[api.OK] < 500 || told[api.ErrForm] < 500 || told[api.ErrRange] < 500 {
		t.Error(told)
	}
}

func TestParseNewMemory(t *testing.T) {
	x, _ := parse.Parse(some)
	y, _ := parse.Parse(some)
	for i := range x.Customers {
		for j := range x.Customers[i].Patterns {
			x.Customers[i].Patterns[j] = 31
		}
		_ = append(x.Customers[i].Patterns, 31)
		x.Customers[i].Demand = 99
	}
	for a := range x.Dist {
		// Each row's spare room, then its numbers: none of them is another row's.
		_ = append(x.Dist[a], 77)
		for b := range x.Dist[a] {
			if x.Dist[a][b] != someInstance().Dist[a][b] {
				t.Error(a, b, "is another row's")
			}
			x.Dist[a][b] = 88
		}
	}
	if taken(y) != taken(someInstance()) {
		t.Error("what is parsed twice shares memory")
	}
	parses(t, some, someInstance(), api.OK)
}

// P7.2

// prints holds Print to a text, and to leaving the instance as it is.
func prints(t *testing.T, x api.Instance, want string, wrong api.Errno) {
	t.Helper()
	was := taken(x)
	s, e := parse.Print(x)
	if s != want || e != wrong {
		t.Errorf("Print: %.300q, %v; want %.300q, %v", s, e, want, wrong)
	}
	if taken(x) != was {
		t.Error("it is changed")
	}
}

func TestPrint(t *testing.T) {
	prints(t, someInstance(), some, api.OK)
	prints(t, api.Instance{Days: 1, Dist: [][]int{{0}}}, "tranter 1\ndays 1 vehicles 0 capacity 0 length 0\ncustomers 0\ndistances\n0\n", api.OK)
	prints(t, api.Instance{Days: 64, Vehicles: most, Capacity: most, Length: most, Customers: []api.Customer{
		{Kind: api.Periodic, Demand: most, Patterns: []uint64{0, math.MaxUint64}},
		{Kind: api.Tank, Rate: most, Size: most, Start: most, Rule: api.AnyUp, Hold: 1024},
	}, Dist: [][]int{{0, most, 1}, {2, 0, 3}, {4, 5, 0}}},
		"tranter 1\ndays 64 vehicles 2147483648 capacity 2147483648 length 2147483648\ncustomers 2\nvisit 2147483648 "+strings.Repeat("0", 64)+" "+strings.Repeat("1", 64)+
			"\ntank 2147483648 2147483648 2147483648 any 1024\ndistances\n0 2147483648 1\n2 0 3\n4 5 0\n", api.OK)
}

func TestPrintRange(t *testing.T) {
	prints(t, api.Instance{}, "", api.ErrRange)
	for i, change := range []func(x *api.Instance){
		func(x *api.Instance) { x.Days = 0 },
		func(x *api.Instance) { x.Days = -1 },
		func(x *api.Instance) { x.Days = 4 }, // a pattern has the day 4
		func(x *api.Instance) { x.Days = 65 },
		func(x *api.Instance) { x.Days = math.MaxInt },
		func(x *api.Instance) { x.Vehicles = -1 },
		func(x *api.Instance) { x.Capacity = most + 1 },
		func(x *api.Instance) { x.Length = math.MinInt },
		func(x *api.Instance) { x.Customers[0].Kind = 0 },
		func(x *api.Instance) { x.Customers[0].Kind = api.Tank },
		func(x *api.Instance) { x.Customers[0].Kind = 3 },
		func(x *api.Instance) { x.Customers[0].Demand = 0 },
		func(x *api.Instance) { x.Customers[0].Patterns = nil },
		func(x *api.Instance) { x.Customers[0].Patterns = make([]uint64, 65) },
		func(x *api.Instance) { x.Customers[0].Patterns[1] = 32 },
		func(x *api.Instance) { x.Customers[0].Hold = 1 },
		func(x *api.Instance) { x.Customers[1].Rule = 0 },
		func(x *api.Instance) { x.Customers[1].Rule = 3 },
		func(x *api.Instance) { x.Customers[1].Start = 7 },
		func(x *api.Instance) { x.Customers[1].Patterns = []uint64{1} },
		func(x *api.Instance) { x.Customers[1].Demand = 1 },
		func(x *api.Instance) { x.Customers[2].Hold = 1025 },
		func(x *api.Instance) { x.Customers = x.Customers[:3] },
		func(x *api.Instance) { x.Dist = nil },
		func(x *api.Instance) { x.Dist = x.Dist[:4] },
		func(x *api.Instance) { x.Dist[2] = x.Dist[2][:4] },
		func(x *api.Instance) { x.Dist[2] = append(x.Dist[2], 0) },
		func(x *api.Instance) { x.Dist[2][2] = 1 },
		func(x *api.Instance) { x.Dist[2][3] = -1 },
		func(x *api.Instance) { x.Dist[2][3] = most + 1 },
	} {
		x := someInstance()
		change(&x)
		prints(t, x, "", api.ErrRange)
		if t.Failed() {
			t.Fatal(i)
		}
	}
	many := api.Instance{Days: 1, Customers: make([]api.Customer, 2001), Dist: make([][]int, 2002)}
	for i := range many.Customers {
		many.Customers[i] = api.Customer{Kind: api.Tank, Size: 1, Rule: api.FillUp}
	}
	for a := range many.Dist {
		many.Dist[a] = make([]int, 2002)
	}
	if s, e := parse.Print(many); s != "" || e != api.ErrRange {
		t.Error(len(s), e)
	}
}

// Print leaves the spare room of what is handed in, too.
func TestPrintSpareRoom(t *testing.T) {
	x := someInstance()
	spare := slices.Concat(x.Customers[0].Patterns, []uint64{77, 77})
	x.Customers[0].Patterns = spare[:3]
	rest := slices.Concat(x.Dist[1], []int{77, 77})
	x.Dist[1] = rest[:5]
	prints(t, x, some, api.OK)
	if spare[3] != 77 || spare[4] != 77 || rest[5] != 77 || rest[6] != 77 {
		t.Error("the spare room is changed")
	}
}

// P7.3

func TestThereAndBack(t *testing.T) {
	r := rand.New(rand.NewSource(73))
	for range 3000 {
		x := drawn(r, r.Intn(7), most+1)
		s, e := parse.Print(x)
		if e != api.OK || s != written(x) {
			t.Fatalf("Print(%.300q): %.300q, %v", taken(x), s, e)
		}
		y, e := parse.Parse(s)
		if e != api.OK || taken(y) != taken(x) || !inst.Same(x, y) || inst.May(y) != api.OK {
			t.Fatalf("Parse(%.300q): %.300q, %v", s, taken(y), e)
		}
	}
}

func TestBackAndThere(t *testing.T) {
	r := rand.New(rand.NewSource(37))
	parsed := 0
	for range 20000 {
		in := changed(r, written(drawn(r, r.Intn(4), 9)))
		x, e := parse.Parse(in)
		if e != api.OK {
			continue
		}
		parsed++
		if s, e := parse.Print(x); s != in || e != api.OK {
			t.Fatalf("%.300q is printed as %.300q, %v", in, s, e)
		}
	}
	if parsed < 500 {
		t.Error(parsed)
	}
}

package book_test

import (
	"math"
	"math/rand"
	"regexp"
	"slices"
	"strconv"
	"strings"
	"testing"

	"tranter/api"
	"tranter/book"
)

const most = 1000000000000000000 // the greatest number that may be told

// some is a text with days, tours and stops, and with days without tours, and tours without stops; what it tells is told by somePlan.
const some = "plan 4\n" +
	"day 2\n" +
	"tour 2 0 5 17 7\n" +
	"tour 0\n" +
	"day 0\n" +
	"day 1\n" +
	"tour 1 0 9\n" +
	"day 3\n" +
	"tour 1 3 10\n" +
	"tour 3 2 0 0 4 17 6\n" +
	"tour 1 0 1\n"

// somePlan is what some tells.
func somePlan() api.Plan {
	return plan(
		day(tour(0, 5, 17, 7), tour()),
		day(),
		day(tour(0, 9)),
		day(tour(3, 10), tour(2, 0, 0, 4, 17, 6), tour(0, 1)),
	)
}

func plan(l ...api.Day) api.Plan { return api.Plan{Days: l} }

func day(l ...api.Tour) api.Day { return api.Day{Tours: l} }

// tour is the tour of these customers and quantities, one behind the other.
func tour(l ...int) api.Tour {
	var t api.Tour
	for i := 0; i < len(l); i += 2 {
		t.Stops = append(t.Stops, api.Stop{Customer: l[i], Quantity: l[i+1]})
	}
	return t
}

// written is a plan's text, made here of the document's words; of each plan, so that plans are held against each other by it, too.
func written(p api.Plan) string {
	t := "plan " + strconv.Itoa(len(p.Days)) + "\n"
	for _, d := range p.Days {
		t += "day " + strconv.Itoa(len(d.Tours)) + "\n"
		for _, r := range d.Tours {
			t += "tour " + strconv.Itoa(len(r.Stops))
			for _, s := range r.Stops {
				t += " " + strconv.Itoa(s.Customer) + " " + strconv.Itoa(s.Quantity)
			}
			t += "\n"
		}
	}
	return t
}

const decimal = `(?:0|[1-9][0-9]*)`

// What a text's signs are, and those of its parts, as far as no number hangs on another one.
var (
	form   = regexp.MustCompile(strings.ReplaceAll(`\Aplan (N)\n((?:day N\n(?:tour N(?: N N)*\n)*)*)\z`, "N", decimal))
	ofDay  = regexp.MustCompile(strings.ReplaceAll(`day (N)\n((?:tour N(?: N N)*\n)*)`, "N", decimal))
	ofTour = regexp.MustCompile(strings.ReplaceAll(`tour (N)((?: N N)*)\n`, "N", decimal))
	ofStop = regexp.MustCompile(strings.ReplaceAll(` (N) (N)`, "N", decimal))
)

// number is a decimal's number, or the greatest that may be told, if that is less.
func number(w string) int {
	n, err := strconv.Atoi(w)
	if err != nil {
		return most
	}
	return min(n, most)
}

// model is what Parse must answer, made here of the document's words.
func model(t string) (api.Plan, api.Errno) {
	m := form.FindStringSubmatch(t)
	if m == nil {
		return api.Plan{}, api.ErrForm
	}
	var p api.Plan
	// Decimals are the same just if their signs are.
	right := true
	for _, d := range ofDay.FindAllStringSubmatch(m[2], -1) {
		var of api.Day
		for _, r := range ofTour.FindAllStringSubmatch(d[2], -1) {
			var stops api.Tour
			for _, s := range ofStop.FindAllStringSubmatch(r[2], -1) {
				stops.Stops = append(stops.Stops, api.Stop{Customer: number(s[1]), Quantity: number(s[2])})
			}
			right = right && r[1] == strconv.Itoa(len(stops.Stops))
			of.Tours = append(of.Tours, stops)
		}
		right = right && d[1] == strconv.Itoa(len(of.Tours))
		p.Days = append(p.Days, of)
	}
	if !right || m[1] != strconv.Itoa(len(p.Days)) {
		return api.Plan{}, api.ErrForm
	}
	return p, api.OK
}

// parses holds Parse to what a text must tell.
func parses(t *testing.T, in string, want api.Plan, wrong api.Errno) {
	t.Helper()
	p, e := book.Parse(in)
	if e != wrong {
		t.Errorf("Parse(%.300q): %v; want %v", in, e, wrong)
	}
	if written(p) != written(want) || e != api.OK && len(p.Days) > 0 {
		t.Errorf("Parse(%.300q): %.300q; want %.300q", in, written(p), written(want))
	}
}

// refused holds Parse to ErrForm, and to nothing beside it.
func refused(t *testing.T, in string) {
	t.Helper()
	parses(t, in, api.Plan{}, api.ErrForm)
}

// asModelled holds Parse to the model, and tells what that says.
func asModelled(t *testing.T, in string) api.Errno {
	t.Helper()
	want, wrong := model(in)
	parses(t, in, want, wrong)
	return wrong
}

// with is some with something else in one place.
func with(t *testing.T, old, next string) string {
	t.Helper()
	if strings.Count(some, old) != 1 {
		t.Fatalf("%q stands there %d times", old, strings.Count(some, old))
	}
	return strings.Replace(some, old, next, 1)
}

// drawn is a plan that may be told, of customers below so many.
func drawn(r *rand.Rand, customers, quantity int) api.Plan {
	var p api.Plan
	for range r.Intn(5) {
		var d api.Day
		for range r.Intn(4) {
			var l api.Tour
			for range r.Intn(4) {
				l.Stops = append(l.Stops, api.Stop{Customer: r.Intn(customers), Quantity: r.Intn(quantity)})
			}
			d.Tours = append(d.Tours, l)
		}
		p.Days = append(p.Days, d)
	}
	return p
}

// P8.1

func TestParse(t *testing.T) {
	parses(t, some, somePlan(), api.OK)
	parses(t, "plan 0\n", plan(), api.OK)
	parses(t, "plan 1\nday 0\n", plan(day()), api.OK)
	parses(t, "plan 1\nday 1\ntour 0\n", plan(day(tour())), api.OK)
	parses(t, "plan 1\nday 1\ntour 1 0 0\n", plan(day(tour(0, 0))), api.OK)
	parses(t, "plan 2\nday 0\nday 2\ntour 1 4 8\ntour 1 8 4\n", plan(day(), day(tour(4, 8), tour(8, 4))), api.OK)
	parses(t, "plan 2\nday 1\ntour 2 1 2 1 2\nday 0\n", plan(day(tour(1, 2, 1, 2)), day()), api.OK)
	parses(t, "plan 70"+strings.Repeat("\nday 0", 70)+"\n", api.Plan{Days: make([]api.Day, 70)}, api.OK)
	parses(t, "plan 1\nday 3000"+strings.Repeat("\ntour 0", 3000)+"\n", plan(api.Day{Tours: make([]api.Tour, 3000)}), api.OK)
	parses(t, "plan 1\nday 1\ntour 3000"+strings.Repeat(" 0 0", 3000)+"\n", plan(day(api.Tour{Stops: make([]api.Stop, 3000)})), api.OK)
}

// The numbers are those that decimals are read as, which are never above the greatest that may be told.
func TestParseNumbers(t *testing.T) {
	for _, c := range []struct {
		word string
		n    int
	}{
		{"0", 0}, {"1", 1}, {"10", 10}, {"2147483647", 1<<31 - 1}, {"2147483648", 1 << 31}, {"4294967296", 1 << 32}, {"9007199254740993", 9007199254740993},
		{"999999999999999999", most - 1}, {"1000000000000000000", most}, {"1000000000000000001", most}, {"9223372036854775807", most}, {"9223372036854775808", most}, {"18446744073709551616", most}, {strings.Repeat("9", 500), most},
	} {
		parses(t, "plan 1\nday 1\ntour 2 "+c.word+" 7 8 9\n", plan(day(tour(c.n, 7, 8, 9))), api.OK)
		parses(t, "plan 1\nday 1\ntour 2 7 8 9 "+c.word+"\n", plan(day(tour(7, 8, 9, c.n))), api.OK)
		parses(t, "plan 1\nday 1\ntour 1 "+c.word+" "+c.word+"\n", plan(day(tour(c.n, c.n))), api.OK)
	}
}

func TestParseForm(t *testing.T) {
	for _, c := range []struct{ old, next string }{
		{"plan 4\n", ""}, {"plan 4\n", "plan\n"}, {"plan 4\n", "plan 4 4\n"}, {"plan 4\n", "plan 4 \n"}, {"plan 4\n", " plan 4\n"}, {"plan 4\n", "plan  4\n"}, {"plan 4\n", "plan\t4\n"}, {"plan 4\n", "plan 4\r\n"}, {"plan 4\n", "\nplan 4\n"}, {"plan 4\n", "plan 4\n\n"}, {"plan 4\n", "plan 4\nplan 4\n"},
		{"plan 4\n", "plan 3\n"}, {"plan 4\n", "plan 5\n"}, {"plan 4\n", "plan 0\n"}, {"plan 4\n", "plan 04\n"}, {"plan 4\n", "plan -4\n"}, {"plan 4\n", "plan +4\n"}, {"plan 4\n", "plan x\n"}, {"plan 4\n", "plan 4.0\n"}, {"plan 4\n", "4\n"}, {"plan 4\n", "4 plan\n"}, {"plan 4\n", "Plan 4\n"}, {"plan 4\n", "plans 4\n"}, {"plan 4\n", "day 4\n"}, {"plan 4\n", "plan4\n"}, {"plan 4\n", "plan 4 day 2\n"},
		{"day 2\n", ""}, {"day 2\n", "day\n"}, {"day 2\n", "day 1\n"}, {"day 2\n", "day 3\n"}, {"day 2\n", "day 2 2\n"}, {"day 2\n", "day 02\n"}, {"day 2\n", "day -2\n"}, {"day 2\n", "day x\n"}, {"day 2\n", "Day 2\n"}, {"day 2\n", "days 2\n"}, {"day 2\n", "tour 2\n"}, {"day 2\n", "plan 2\n"}, {"day 2\n", "2\n"}, {"day 2\n", "day 2\nday 2\n"}, {"day 2\n", "day 2 tour 0\n"}, {"day 2\n", "day 0\n"}, {"day 2\n", "2 day\n"},
		{"day 0\n", ""}, {"day 0\n", "day\n"}, {"day 0\n", "day 1\n"}, {"day 0\n", "day 00\n"}, {"day 0\n", "day 0\nday 0\n"}, {"day 1\n", "day 0\n"}, {"day 1\n", "day 2\n"}, {"day 3\n", "day 2\n"}, {"day 3\n", "day 4\n"}, {"day 3\n", "day\n"},
		{"tour 2 0 5 17 7\n", ""}, {"tour 2 0 5 17 7\n", "tour\n"}, {"tour 2 0 5 17 7\n", "tour 2\n"}, {"tour 2 0 5 17 7\n", "tour 2 0\n"}, {"tour 2 0 5 17 7\n", "tour 2 0 5\n"}, {"tour 2 0 5 17 7\n", "tour 2 0 5 17\n"}, {"tour 2 0 5 17 7\n", "tour 2 0 5 17 7 1\n"}, {"tour 2 0 5 17 7\n", "tour 2 0 5 17 7 1 1\n"},
		{"tour 2 0 5 17 7\n", "tour 1 0 5 17 7\n"}, {"tour 2 0 5 17 7\n", "tour 3 0 5 17 7\n"}, {"tour 2 0 5 17 7\n", "tour 4 0 5 17 7\n"}, {"tour 2 0 5 17 7\n", "tour 0 0 5 17 7\n"}, {"tour 2 0 5 17 7\n", "tour 02 0 5 17 7\n"}, {"tour 2 0 5 17 7\n", "tour -2 0 5 17 7\n"}, {"tour 2 0 5 17 7\n", "tour x 0 5 17 7\n"}, {"tour 2 0 5 17 7\n", "tour 0 5 17 7\n"},
		{"tour 2 0 5 17 7\n", "2 0 5 17 7\n"}, {"tour 2 0 5 17 7\n", "day 2 0 5 17 7\n"}, {"tour 2 0 5 17 7\n", "Tour 2 0 5 17 7\n"}, {"tour 2 0 5 17 7\n", "tours 2 0 5 17 7\n"}, {"tour 2 0 5 17 7\n", "2 tour 0 5 17 7\n"}, {"tour 2 0 5 17 7\n", "tour 2 0 5\n17 7\n"}, {"tour 2 0 5 17 7\n", "tour 1 0 5\ntour 1 17 7\n"}, {"tour 2 0 5 17 7\n", "tour 2 0 5 17 7 tour 0\n"},
		{"0 5 17 7", "00 5 17 7"}, {"0 5 17 7", "0 05 17 7"}, {"0 5 17 7", "0 5 -17 7"}, {"0 5 17 7", "0 5 17 -7"}, {"0 5 17 7", "-0 5 17 7"}, {"0 5 17 7", "0 5 17 +7"}, {"0 5 17 7", "0 5 x 7"}, {"0 5 17 7", "0 5 17 7x"}, {"0 5 17 7", "0 5  17 7"}, {"0 5 17 7", "0 5 17 0x7"}, {"0 5 17 7", "0 5 1_7 7"}, {"0 5 17 7", "0 5 17 7.5"}, {"0 5 17 7", "0 5 17 \u0667"},
		{"tour 0\n", ""}, {"tour 0\n", "tour\n"}, {"tour 0\n", "tour 0\ntour 0\n"}, {"tour 0\n", "tour 0 0\n"}, {"tour 0\n", "tour 1\n"}, {"tour 0\n", "tour 00\n"}, {"tour 0\n", "\n"}, {"tour 0\n", "day 0\n"},
		{"tour 1 0 1\n", ""}, {"tour 1 0 1\n", "tour 1 0 1"}, {"tour 1 0 1\n", "tour 1 0\n"}, {"tour 1 0 1\n", "tour 1 0 1\n\n"}, {"tour 1 0 1\n", "tour 1 0 1\ntour 0\n"}, {"tour 1 0 1\n", "tour 1 0 1\nday 0\n"}, {"tour 1 0 1\n", "tour 1 0 1\nplan 0\n"}, {"tour 1 0 1\n", "tour 1 0 1\nx\n"}, {"tour 1 0 1\n", "tour 1 0 1\n "}, {"tour 1 0 1\n", "tour 1 0 1\x00\n"}, {"tour 1 0 1\n", "tour 1 0 1\n\xff"},
	} {
		refused(t, with(t, c.old, c.next))
	}
	for _, in := range []string{"", "\n", " ", "plan", "plan 0", "plan 0\n\n", "plan 0\nday 0\n", "plan 0\nplan 0\n", "plan 1\n", "plan 1\ntour 0\n", "day 0\n", "tour 0\n", "plan 1\nday 1\n", some + some, some[1:], strings.ReplaceAll(some, "\n", "\r\n"), strings.ReplaceAll(some, " ", "  "), strings.ToUpper(some)} {
		refused(t, in)
	}
}

// A text may say that there is any number of days, tours or stops, and have others: also such a number that it, twice it, or 1 more is that of those it has, once it is wrapped round.
func TestParseManySaid(t *testing.T) {
	for _, n := range []string{"64", "65", "2147483647", "2147483648", "4294967296", "4294967297", "999999999999999999", "1000000000000000000", "1000000000000000001", "4611686018427387904", "4611686018427387905", "9223372036854775807", "9223372036854775808",
		"9223372036854775809", "13835058055282163713", "18446744073709551615", "18446744073709551616", "18446744073709551617", "36893488147419103233", "340282366920938463463374607431768211457", strings.Repeat("9", 1000)} {
		refused(t, "plan "+n+"\n")
		refused(t, "plan "+n+"\nday 0\n")
		refused(t, "plan 1\nday "+n+"\n")
		refused(t, "plan 1\nday "+n+"\ntour 0\n")
		refused(t, "plan 2\nday "+n+"\ntour 0\nday 0\n")
		refused(t, "plan 1\nday 1\ntour "+n+"\n")
		refused(t, "plan 1\nday 1\ntour "+n+" 1\n")
		refused(t, "plan 1\nday 1\ntour "+n+" 1 1\n")
		refused(t, "plan 1\nday 1\ntour "+n+" 1 1 2 2\n")
	}
}

// Every text that is some with a byte less, another one, or one more; and every piece of it from its beginning on, or to its end.
func TestParseEveryByte(t *testing.T) {
	var told [4]int
	for i := range len(some) + 1 {
		for b := range 256 {
			one := string([]byte{byte(b)})
			told[asModelled(t, some[:i]+one+some[i:])]++
			if i < len(some) {
				told[asModelled(t, some[:i]+one+some[i+1:])]++
			}
		}
		if i < len(some) {
			told[asModelled(t, some[:i]+some[i+1:])]++
		}
		told[asModelled(t, some[:i])]++
		told[asModelled(t, some[i:])]++
	}
	if told[api.OK] < 100 || told[api.ErrForm] < 100 {
		t.Error(told)
	}
}

// changed is a text's words, with some of them other ones, dropped or put in, or some of its lines.
func changed(r *rand.Rand, in string) string {
	var l [][]string
	for line := range strings.Lines(in) {
		l = append(l, strings.Fields(line))
	}
	pool := []string{"0", "1", "2", "3", "4", "00", "01", "-1", "plan", "day", "tour", "x", "1000000000000000000", "18446744073709551617"}
	for range 1 + r.Intn(2) {
		i, j := r.Intn(len(l)), r.Intn(len(l))
		at := r.Intn(len(l[i]))
		switch r.Intn(7) {
		case 0:
			l[i] = slices.Delete(slices.Clone(l[i]), at, at+1)
		case 1:
			l[i] = slices.Insert(slices.Clone(l[i]), at, pool[r.Intn(len(pool))])
		case 2, 3:
			l[i] = slices.Clone(l[i])
			l[i][at] = pool[r.Intn(len(pool))]
		case 4:
			l = slices.Delete(l, i, i+1)
		case 5:
			l = slices.Insert(l, i, l[j])
		case 6:
			l[i], l[j] = l[j], l[i]
		}
		if len(l) == 0 || slices.ContainsFunc(l, func(w []string) bool { return len(w) == 0 }) {
			break
		}
	}
	var t strings.Builder
	for _, w := range l {
		t.WriteString(strings.Join(w, " ") + "\n")
	}
	return t.String()
}

func TestParseByChance(t *testing.T) {
	r := rand.New(rand.NewSource(8))
	var told [4]int
	for range 30000 {
		told[asModelled(t, changed(r, written(drawn(r, 5, 5))))]++
	}
	if told[api.OK] < 2000 || told[api.ErrForm] < 2000 {
		t.Error(told)
	}
}

// prints holds Print to a text, and to leaving the plan as it is.
func prints(t *testing.T, p api.Plan, want string, wrong api.Errno) {
	t.Helper()
	was := written(p)
	s, e := book.Print(p)
	if s != want || e != wrong {
		t.Errorf("Print(%.300q): %.300q, %v; want %.300q, %v", was, s, e, want, wrong)
	}
	if written(p) != was {
		t.Errorf("%.300q is changed", was)
	}
}

func TestPrint(t *testing.T) {
	prints(t, somePlan(), some, api.OK)
	prints(t, plan(), "plan 0\n", api.OK)
	prints(t, api.Plan{Days: []api.Day{}}, "plan 0\n", api.OK)
	prints(t, plan(day()), "plan 1\nday 0\n", api.OK)
	prints(t, plan(api.Day{Tours: []api.Tour{}}), "plan 1\nday 0\n", api.OK)
	prints(t, plan(day(tour())), "plan 1\nday 1\ntour 0\n", api.OK)
	prints(t, plan(day(api.Tour{Stops: []api.Stop{}})), "plan 1\nday 1\ntour 0\n", api.OK)
	prints(t, plan(day(tour(0, 0))), "plan 1\nday 1\ntour 1 0 0\n", api.OK)
	prints(t, plan(day(tour(most, most-1)), day(tour(most-1, most))), "plan 2\nday 1\ntour 1 1000000000000000000 999999999999999999\nday 1\ntour 1 999999999999999999 1000000000000000000\n", api.OK)
	// More days than there may be, a customer on two tours of a day, and one more than there may be: all that may be told, if not planned.
	prints(t, api.Plan{Days: make([]api.Day, 65)}, "plan 65\n"+strings.Repeat("day 0\n", 65), api.OK)
	prints(t, plan(day(tour(1, 2, 1, 2), tour(1, 2), tour(2000, 3))), "plan 1\nday 3\ntour 2 1 2 1 2\ntour 1 1 2\ntour 1 2000 3\n", api.OK)
}

func TestPrintArg(t *testing.T) {
	// Of somePlan the stops, each by its day, tour and place.
	places := [][3]int{{0, 0, 0}, {0, 0, 1}, {2, 0, 0}, {3, 0, 0}, {3, 1, 0}, {3, 1, 1}, {3, 1, 2}, {3, 2, 0}}
	for _, n := range []int{math.MinInt, -most, -1 << 32, -1 << 31, -2, -1, 0, 1, most - 1, most, most + 1, 2 * most, math.MaxInt} {
		for _, at := range places {
			for field := range 2 {
				p := somePlan()
				s := &p.Days[at[0]].Tours[at[1]].Stops[at[2]]
				*[]*int{&s.Customer, &s.Quantity}[field] = n
				if n < 0 || n > most {
					prints(t, p, "", api.ErrArg)
				} else {
					prints(t, p, written(p), api.OK)
				}
			}
		}
	}
	prints(t, plan(day(tour(-1, -1))), "", api.ErrArg)
	prints(t, plan(day(tour(most+1, -1))), "", api.ErrArg)
}

// others are plans that are not somePlan: of each thing in it one with another one, one less, or one more; and such as have the same stops on other tours, or on other days.
func others() []api.Plan {
	var l []api.Plan
	other := func(change func(p *api.Plan)) {
		p := somePlan()
		change(&p)
		l = append(l, p)
	}
	for i, d := range somePlan().Days {
		other(func(p *api.Plan) { p.Days = slices.Delete(p.Days, i, i+1) })
		other(func(p *api.Plan) { p.Days = slices.Insert(p.Days, i, api.Day{}) })
		other(func(p *api.Plan) { p.Days[i].Tours = append(p.Days[i].Tours, api.Tour{}) })
		for j, r := range d.Tours {
			other(func(p *api.Plan) { p.Days[i].Tours = slices.Delete(p.Days[i].Tours, j, j+1) })
			other(func(p *api.Plan) {
				p.Days[i].Tours[j].Stops = append(p.Days[i].Tours[j].Stops, api.Stop{})
			})
			for k := range r.Stops {
				other(func(p *api.Plan) {
					p.Days[i].Tours[j].Stops = slices.Delete(p.Days[i].Tours[j].Stops, k, k+1)
				})
				other(func(p *api.Plan) { p.Days[i].Tours[j].Stops[k].Customer++ })
				other(func(p *api.Plan) { p.Days[i].Tours[j].Stops[k].Quantity-- })
				other(func(p *api.Plan) { p.Days[i].Tours[j].Stops[k].Customer += 1 << 32 })
			}
		}
	}
	other(func(p *api.Plan) { p.Days = nil })
	other(func(p *api.Plan) { p.Days[0], p.Days[1] = p.Days[1], p.Days[0] })
	other(func(p *api.Plan) { slices.Reverse(p.Days[0].Tours) })
	other(func(p *api.Plan) { slices.Reverse(p.Days[0].Tours[0].Stops) })
	other(func(p *api.Plan) { p.Days[0].Tours = []api.Tour{tour(0, 5), tour(17, 7)} })
	return l
}

func TestSame(t *testing.T) {
	if !book.Same(somePlan(), somePlan()) {
		t.Error("the same is told to be another one")
	}
	for _, p := range others() {
		if book.Same(somePlan(), p) || book.Same(p, somePlan()) {
			t.Errorf("%q is told to be the same", written(p))
		}
		if !book.Same(p, book.Clone(p)) {
			t.Errorf("%q is told to be another one", written(p))
		}
	}
}

func TestSameByChance(t *testing.T) {
	r := rand.New(rand.NewSource(81))
	var told [2]int
	for range 20000 {
		p, q := drawn(r, 2, 2), drawn(r, 2, 2)
		is := 0
		if written(p) == written(q) {
			is = 1
		}
		told[is]++
		if book.Same(p, q) != (is == 1) {
			t.Errorf("%q, %q", written(p), written(q))
		}
	}
	if told[0] < 500 || told[1] < 500 {
		t.Error(told)
	}
}

// No list and an empty one are the same, at every depth (R4).
func TestSameEmpty(t *testing.T) {
	for _, l := range [][2]api.Plan{
		{api.Plan{}, api.Plan{Days: []api.Day{}}},
		{plan(api.Day{}), plan(api.Day{Tours: []api.Tour{}})},
		{plan(day(api.Tour{})), plan(day(api.Tour{Stops: []api.Stop{}}))},
	} {
		if !book.Same(l[0], l[1]) || !book.Same(l[1], l[0]) || !book.Same(l[1], l[1]) {
			t.Errorf("%q", written(l[0]))
		}
	}
	for i, p := range []api.Plan{plan(), plan(day()), plan(day(tour())), plan(day(), day()), plan(day(tour(), tour())), plan(day(tour(0, 0)))} {
		for j, q := range []api.Plan{plan(), plan(day()), plan(day(tour())), plan(day(), day()), plan(day(tour(), tour())), plan(day(tour(0, 0)))} {
			if book.Same(p, q) != (i == j) {
				t.Errorf("%q, %q", written(p), written(q))
			}
		}
	}
}

// spoilt changes each list of a plan at every depth: what is in it, and its spare room; the deepest ones first.
func spoilt(p api.Plan) {
	for i := range p.Days {
		for j := range p.Days[i].Tours {
			l := p.Days[i].Tours[j].Stops
			l = l[:cap(l)]
			for k := range l {
				l[k] = api.Stop{Customer: -9, Quantity: -9}
			}
		}
		l := p.Days[i].Tours
		l = l[:cap(l)]
		for j := range l {
			l[j] = tour(-8, -8)
		}
	}
	l := p.Days[:cap(p.Days)]
	for i := range l {
		l[i] = day(tour(-7, -7))
	}
}

func TestClone(t *testing.T) {
	r := rand.New(rand.NewSource(82))
	l := append(others(), somePlan(), api.Plan{}, api.Plan{Days: []api.Day{}}, plan(api.Day{Tours: []api.Tour{}}), plan(day(api.Tour{Stops: []api.Stop{}})), plan(day(tour(math.MinInt, math.MaxInt))))
	for range 500 {
		l = append(l, drawn(r, 9, 9))
	}
	for _, p := range l {
		was := written(p)
		c, d := book.Clone(p), book.Clone(p)
		if written(c) != was || !book.Same(p, c) || written(p) != was {
			t.Errorf("%q: %q; it is %q", was, written(c), written(p))
		}
		spoilt(c)
		if written(p) != was || written(d) != was {
			t.Errorf("%q: a copy's lists are its own, or another copy's: %q, %q", was, written(p), written(d))
		}
		spoilt(p)
		if written(d) != was {
			t.Errorf("%q: its lists are a copy's: %q", was, written(d))
		}
	}
}

// apart holds the lists of one answer to sharing no memory, by what is put behind each.
func apart(t *testing.T, p api.Plan) {
	t.Helper()
	was := book.Clone(p)
	for _, d := range p.Days {
		_ = append(d.Tours, tour(-5, -5))
		for _, r := range d.Tours {
			_ = append(r.Stops, api.Stop{Customer: -5, Quantity: -5})
		}
	}
	if !book.Same(p, was) {
		t.Errorf("%.300q: a list's spare room is another one's: %.300q", written(was), written(p))
	}
}

// What is answered is new memory, at every depth (R4).
func TestNewMemory(t *testing.T) {
	p, _ := book.Parse(some)
	q, _ := book.Parse(some)
	apart(t, p)
	apart(t, book.Clone(p))
	spoilt(p)
	if written(q) != some {
		t.Error("what is parsed twice shares memory")
	}
	parses(t, some, somePlan(), api.OK)

	v, w := book.Visits(q, 0), book.Visits(q, 0)
	v[0] = api.Visit{Day: -1, Quantity: -1}
	if w[0] == v[0] || written(q) != some {
		t.Error("what is told of a customer's visits twice shares memory")
	}
	d, e := book.Days(q, 3), book.Days(q, 3)
	d[0] = -1
	if e[0] == d[0] || written(q) != some {
		t.Error("what is told of a customer's days twice shares memory")
	}
}

// Nothing that is handed in is changed, its spare room neither (R4).
func TestSpareRoom(t *testing.T) {
	spare := tour(77, 77)
	stops := append(tour(1, 2, 3, 4).Stops, spare.Stops...)
	tours := []api.Tour{{Stops: stops[:2]}, tour(5, 6), spare}
	days := []api.Day{{Tours: tours[:2]}, day(tour(1, 8)), day(spare)}
	p := api.Plan{Days: days[:2]}
	prints(t, p, "plan 2\nday 2\ntour 2 1 2 3 4\ntour 1 5 6\nday 1\ntour 1 1 8\n", api.OK)
	c := book.Clone(p)
	if !book.Same(p, c) || len(book.Visits(p, 1)) != 2 || len(book.Days(p, 1)) != 2 {
		t.Error("answers")
	}
	apart(t, c)
	spoilt(c)
	if written(api.Plan{Days: days}) != "plan 3\nday 2\ntour 2 1 2 3 4\ntour 1 5 6\nday 1\ntour 1 1 8\nday 1\ntour 1 77 77\n" ||
		written(plan(day(tours...))) != "plan 1\nday 3\ntour 2 1 2 3 4\ntour 1 5 6\ntour 1 77 77\n" || stops[2] != spare.Stops[0] {
		t.Error("the spare room is changed")
	}
}

// P8.2

func TestVisits(t *testing.T) {
	for _, c := range []struct {
		customer int
		want     []api.Visit
	}{
		{0, []api.Visit{{Day: 0, Quantity: 5}, {Day: 2, Quantity: 9}, {Day: 3, Quantity: 4}, {Day: 3, Quantity: 1}}},
		{2, []api.Visit{{Day: 3, Quantity: 0}}},
		{3, []api.Visit{{Day: 3, Quantity: 10}}},
		{17, []api.Visit{{Day: 0, Quantity: 7}, {Day: 3, Quantity: 6}}},
		{1, nil}, {4, nil}, {5, nil}, {7, nil}, {10, nil}, {-1, nil}, {1 << 32, nil}, {17 + 1<<32, nil}, {math.MinInt, nil}, {math.MaxInt, nil},
	} {
		p := somePlan()
		if v := book.Visits(p, c.customer); !slices.Equal(v, c.want) {
			t.Errorf("Visits of %d: %v; want %v", c.customer, v, c.want)
		}
		var days []int
		for _, v := range c.want {
			days = append(days, v.Day)
		}
		if d := book.Days(p, c.customer); !slices.Equal(d, days) {
			t.Errorf("Days of %d: %v; want %v", c.customer, d, days)
		}
		if written(p) != some {
			t.Error("it is changed")
		}
	}
}

func TestVisitsOfNone(t *testing.T) {
	for _, p := range []api.Plan{{}, plan(day()), plan(day(tour())), plan(day(tour(), tour()), day())} {
		for _, c := range []int{-1, 0, 1} {
			if v, d := book.Visits(p, c), book.Days(p, c); len(v) != 0 || len(d) != 0 {
				t.Errorf("%q: %v, %v", written(p), v, d)
			}
		}
	}
}

// Also of plans that may not be told, or may not be: nothing is looked at but whose a stop is.
func TestVisitsOfAnyPlan(t *testing.T) {
	p := plan(day(), day(tour(-1, 3, 4, 4, -1, -3), tour(-1, math.MinInt)), day(tour(math.MaxInt, math.MaxInt)))
	if v := book.Visits(p, -1); !slices.Equal(v, []api.Visit{{Day: 1, Quantity: 3}, {Day: 1, Quantity: -3}, {Day: 1, Quantity: math.MinInt}}) {
		t.Error(v)
	}
	if v := book.Visits(p, math.MaxInt); !slices.Equal(v, []api.Visit{{Day: 2, Quantity: math.MaxInt}}) {
		t.Error(v)
	}
	if d := book.Days(p, -1); !slices.Equal(d, []int{1, 1, 1}) {
		t.Error(d)
	}
	late := api.Plan{Days: make([]api.Day, 100)}
	late.Days[64], late.Days[99] = day(tour(6, 1)), day(tour(6, 2))
	if d := book.Days(late, 6); !slices.Equal(d, []int{64, 99}) {
		t.Error(d)
	}
}

// Over all customers each stop is told once, and each customer's in their row.
func TestVisitsByChance(t *testing.T) {
	r := rand.New(rand.NewSource(83))
	for range 3000 {
		p := drawn(r, 4, 9)
		want := map[int][]api.Visit{}
		for i, d := range p.Days {
			for _, l := range d.Tours {
				for _, s := range l.Stops {
					want[s.Customer] = append(want[s.Customer], api.Visit{Day: i, Quantity: s.Quantity})
				}
			}
		}
		for c := range 5 {
			v, d := book.Visits(p, c), book.Days(p, c)
			if !slices.Equal(v, want[c]) {
				t.Errorf("%q: Visits of %d: %v; want %v", written(p), c, v, want[c])
			}
			if !slices.EqualFunc(v, d, func(v api.Visit, day int) bool { return v.Day == day }) {
				t.Errorf("%q: Days of %d: %v beside %v", written(p), c, d, v)
			}
		}
	}
}

// P8.3

// As many days, and twice as many stops, as there may be; and a tour, and a day, that are far greater.
func TestGreatPlan(t *testing.T) {
	p := api.Plan{Days: make([]api.Day, 64)}
	for i := range p.Days {
		for c := range 2000 {
			p.Days[i].Tours = append(p.Days[i].Tours, tour(c, i, c+1, 1<<31))
		}
	}
	p.Days[63].Tours = append(p.Days[63].Tours, api.Tour{Stops: make([]api.Stop, 70000)})
	p.Days[62].Tours = make([]api.Tour, 70000)
	s, e := book.Print(p)
	if e != api.OK || !strings.HasPrefix(s, "plan 64\nday 2000\ntour 2 0 0 1 2147483648\n") || !strings.Contains(s, "\nday 70000\ntour 0\n") || !strings.HasSuffix(s, "\ntour 70000"+strings.Repeat(" 0 0", 70000)+"\n") {
		t.Fatal(len(s), e)
	}
	q, e := book.Parse(s)
	if e != api.OK || !book.Same(p, q) || !book.Same(p, book.Clone(q)) || len(book.Visits(q, 0)) != 63+70000 || len(book.Days(q, 2000)) != 63 {
		t.Error(e)
	}
	apart(t, q)
}

func TestThereAndBack(t *testing.T) {
	r := rand.New(rand.NewSource(38))
	for range 5000 {
		p := drawn(r, most+1, most+1)
		s, e := book.Print(p)
		if e != api.OK || s != written(p) {
			t.Fatalf("Print(%.300q): %.300q, %v", written(p), s, e)
		}
		q, e := book.Parse(s)
		if e != api.OK || written(q) != s || !book.Same(p, q) {
			t.Fatalf("Parse(%.300q): %.300q, %v", s, written(q), e)
		}
	}
}

// great tells whether a text has a number above the greatest that may be told.
func great(t string) bool {
	return slices.ContainsFunc(strings.Fields(t), func(w string) bool { return len(w) > 19 || len(w) == 19 && w > strconv.Itoa(most) })
}

func TestBackAndThere(t *testing.T) {
	r := rand.New(rand.NewSource(83))
	parsed, clipped := 0, 0
	for range 30000 {
		in := changed(r, written(drawn(r, 5, 5)))
		p, e := book.Parse(in)
		if e != api.OK {
			continue
		}
		parsed++
		s, e := book.Print(p)
		if e != api.OK {
			t.Fatalf("%.300q is not printed: %v", in, e)
		}
		if great(in) {
			clipped++
			in = strings.ReplaceAll(in, "18446744073709551617", "1000000000000000000")
		}
		if s != in {
			t.Fatalf("%.300q is printed as %.300q", in, s)
		}
	}
	if parsed < 2000 || clipped < 20 {
		t.Error(parsed, clipped)
	}
}

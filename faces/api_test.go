package faces

import (
	"strconv"
	"strings"
	"testing"

	"tranter/api"
)

type named struct {
	name      string
	got, want int
}

func same(t *testing.T, l []named) {
	t.Helper()
	for _, n := range l {
		if n.got != n.want {
			t.Errorf("%s: %d, want %d", n.name, n.got, n.want)
		}
	}
}

func TestLimits(t *testing.T) {
	same(t, []named{
		{"MaxCustomers", api.MaxCustomers, 2000},
		{"MaxDays", api.MaxDays, 64},
		{"MaxSize", api.MaxSize, 1 << 31},
		{"MaxHold", api.MaxHold, 1 << 10},
		{"MaxPatterns", api.MaxPatterns, 64},
		{"MaxNumber", api.MaxNumber, 1e18},
		{"MaxSteps", api.MaxSteps, 1000},
	})
}

func TestKindsRulesMovesOutcomes(t *testing.T) {
	same(t, []named{
		{"Periodic", api.Periodic, 1}, {"Tank", api.Tank, 2},
		{"FillUp", api.FillUp, 1}, {"AnyUp", api.AnyUp, 2},
		{"Turn", api.Turn, 0}, {"Shift", api.Shift, 1}, {"Swap", api.Swap, 2}, {"Cross", api.Cross, 3},
		{"Malformed", api.Malformed, 1}, {"OutOfRange", api.OutOfRange, 2}, {"NoPlan", api.NoPlan, 3}, {"Found", api.Found, 4},
	})
}

// errnos are the refusals, from 0 on.
func errnos() []api.Errno {
	return []api.Errno{
		api.OK, api.ErrArg, api.ErrForm, api.ErrRange, api.ErrOver, api.ErrNone, api.ErrExist, api.ErrFull, api.ErrStock, api.ErrRule,
		api.ErrDays, api.ErrTwice, api.ErrLoad, api.ErrLong, api.ErrFleet, api.ErrPlan, api.ErrBound, api.ErrStep, api.ErrLine,
	}
}

func TestErrorsTellTheirNumbers(t *testing.T) {
	l := errnos()
	if len(l) != 19 {
		t.Error(len(l))
	}
	for i, e := range l {
		var told error = e
		if int(e) != i || !strings.HasSuffix(told.Error(), " "+strconv.Itoa(i)) {
			t.Error(i, int(e), told)
		}
	}
}

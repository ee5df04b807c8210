package faces

import (
	"tranter/alone"
	"tranter/api"
	"tranter/book"
	"tranter/bound"
	"tranter/check"
	"tranter/day"
	"tranter/days"
	"tranter/draw"
	"tranter/dual"
	"tranter/heap"
	"tranter/horizon"
	"tranter/inst"
	"tranter/moves"
	"tranter/num"
	"tranter/parse"
	"tranter/planner"
	"tranter/policy"
	"tranter/savings"
	"tranter/search"
	"tranter/stock"
	"tranter/text"
	"tranter/tour"
)

// A call of another kind than its chapter lists does not compile here.

// Layer 1: num.
var (
	_ func(int, int) (int, bool) = num.Add
	_ func(int, int) (int, bool) = num.Less
	_ func(int, int) (int, bool) = num.Times
	_ func(int, int) (int, bool) = num.Floor
	_ func(int, int) (int, bool) = num.Ceil
	_ func(...int) (int, bool)   = num.Sum
	_ func(int, int, int) int    = num.Clip
	_ func(int, int) int         = num.Sat
)

// Layer 2: days.
var (
	_ func(...int) days.Set              = days.Of
	_ func(days.Set, int) bool           = days.Set.Has
	_ func(days.Set, int) days.Set       = days.Set.With
	_ func(days.Set, int) days.Set       = days.Set.Without
	_ func(days.Set) int                 = days.Set.Len
	_ func(days.Set) []int               = days.Set.All
	_ func(days.Set, int) int            = days.Set.Next
	_ func(days.Set, int) string         = days.Set.Text
	_ func(string) (days.Set, api.Errno) = days.Parse
	_ func([]uint64, []int) (int, int)   = days.Best
)

// Layer 3: heap.
var (
	_ func() *heap.Heap[int]                 = heap.New[int]
	_ func(*heap.Heap[int], int, int) bool   = (*heap.Heap[int]).Put
	_ func(*heap.Heap[int], int, int) bool   = (*heap.Heap[int]).Change
	_ func(*heap.Heap[int], int) bool        = (*heap.Heap[int]).Drop
	_ func(*heap.Heap[int], int) (int, bool) = (*heap.Heap[int]).Worth
	_ func(*heap.Heap[int]) (int, int, bool) = (*heap.Heap[int]).First
	_ func(*heap.Heap[int]) (int, int, bool) = (*heap.Heap[int]).Take
	_ func(*heap.Heap[int]) int              = (*heap.Heap[int]).Len
	_ func([]int) []int                      = heap.Sorted
)

// Layer 4: draw.
var (
	_ func(int) *draw.Stream          = draw.New
	_ func(*draw.Stream) uint64       = (*draw.Stream).Word
	_ func(*draw.Stream, int) int     = (*draw.Stream).Below
	_ func(*draw.Stream, []int) int   = (*draw.Stream).Pick
	_ func(*draw.Stream, int) []int   = (*draw.Stream).Row
	_ func(*draw.Stream) *draw.Stream = (*draw.Stream).Fork
)

// Layer 5: text.
var (
	_ func(string) ([][]string, api.Errno) = text.Lines
	_ func(...string) string               = text.Line
	_ func(string) (int, bool)             = text.Number
	_ func(int) string                     = text.Decimal
	_ func([]string) ([]int, bool)         = text.Numbers
	_ func([]int) []string                 = text.Words
)

// Layer 6: inst.
var (
	_ func(api.Instance) api.Errno          = inst.May
	_ func(api.Instance, int, int) int      = inst.Arc
	_ func(api.Instance, []int) int         = inst.Way
	_ func(api.Instance) ([]int, []int)     = inst.Cheap
	_ func(api.Instance, api.Instance) bool = inst.Same
	_ func(api.Instance) api.Instance       = inst.Clone
)

// Layer 7: parse.
var (
	_ func(string) (api.Instance, api.Errno) = parse.Parse
	_ func(api.Instance) (string, api.Errno) = parse.Print
)

// Layer 8: book.
var (
	_ func(string) (api.Plan, api.Errno) = book.Parse
	_ func(api.Plan) (string, api.Errno) = book.Print
	_ func(api.Plan, api.Plan) bool      = book.Same
	_ func(api.Plan) api.Plan            = book.Clone
	_ func(api.Plan, int) []api.Visit    = book.Visits
	_ func(api.Plan, int) []int          = book.Days
)

// Layer 9: stock.
var (
	_ func(api.Customer, []int) ([]int, api.Errno) = stock.Nights
	_ func(api.Customer, []int) api.Errno          = stock.Holds
	_ func(api.Customer, []int) int                = stock.Held
	_ func([]api.Visit, int) []int                 = stock.Brings
	_ func([]int) []api.Visit                      = stock.Visits
)

// Layer 10: policy.
var (
	_ func(api.Customer, int, int) int           = policy.Most
	_ func(api.Customer, int, int) ([]int, bool) = policy.Late
	_ func(api.Customer, int, int) ([]int, bool) = policy.Daily
	_ func(api.Customer, int, int) bool          = policy.Can
	_ func(api.Customer, int) int                = policy.Wants
	_ func(api.Customer, int) int                = policy.Keeps
	_ func(api.Customer, int, int) int           = policy.Forced
)

// Layer 11: alone.
var (
	_ func(api.Customer, int, int, []api.Visit) bool          = alone.Suits
	_ func(api.Customer, int, []int, []api.Visit) int         = alone.Cost
	_ func(api.Customer, int, int, []int) ([]api.Visit, bool) = alone.Solve
	_ func(api.Customer, int, int, []int) int                 = alone.Bound
	_ func(api.Customer, int, int) bool                       = alone.Easy
)

// Layer 12: tour.
var (
	_ func(api.Tour) []int                   = tour.Customers
	_ func(api.Tour) int                     = tour.Load
	_ func(api.Instance, api.Tour) int       = tour.Length
	_ func(api.Instance, api.Tour) api.Errno = tour.May
	_ func(api.Instance, api.Day) api.Errno  = tour.Day
	_ func(api.Instance, api.Day) int        = tour.Cost
	_ func(api.Day) []api.Stop               = tour.Stops
	_ func([]api.Stop) api.Day               = tour.Apart
)

// Layer 13: savings.
var (
	_ func(api.Instance, int, int) int          = savings.Saves
	_ func(api.Instance, []api.Stop) []api.Pair = savings.Pairs
	_ func(api.Instance, []api.Stop) api.Day    = savings.Join
)

// Layer 14: moves.
var (
	_ func(api.Instance, api.Day, api.Move) (api.Day, api.Errno) = moves.Make
	_ func(api.Instance, api.Day, api.Move) (int, api.Errno)     = moves.Delta
	_ func(api.Day) []api.Move                                   = moves.All
	_ func(api.Instance, api.Day) (api.Move, int, bool)          = moves.Best
	_ func(api.Instance, api.Day, int) (api.Day, int)            = moves.Improve
)

// Layer 15: day.
var (
	_ func(api.Instance, []api.Stop) api.Errno                 = day.Fits
	_ func(api.Instance, []api.Stop, int) (api.Day, api.Errno) = day.Solve
	_ func(api.Instance, []api.Stop, api.Stop) (int, bool)     = day.Price
	_ func(api.Instance, api.Day, api.Stop) (api.Day, bool)    = day.Insert
	_ func(api.Day, int) (api.Day, int)                        = day.Remove
	_ func(api.Instance, api.Day, api.Day) bool                = day.Better
	_ func(api.Instance, api.Day, api.Stop) []int              = day.Costs
	_ func(api.Instance, []api.Stop) (api.Day, bool)           = day.Regret
)

// Layer 16: check.
var (
	_ func(api.Instance, api.Plan) api.Errno      = check.Plan
	_ func(api.Instance, api.Plan, int) api.Errno = check.Customer
	_ func(api.Instance, api.Plan) int            = check.Cost
	_ func(api.Instance, api.Plan) []int          = check.Days
	_ func(api.Instance, api.Plan, int) []int     = check.Tours
	_ func(api.Instance, api.Plan) int            = check.Holding
)

// Layer 17: dual.
var (
	_ func(api.Instance, api.Prices) api.Errno            = dual.May
	_ func(api.Instance) api.Prices                       = dual.Zero
	_ func(api.Instance) api.Prices                       = dual.First
	_ func(api.Instance, []int) api.Prices                = dual.Fit
	_ func(api.Instance, api.Prices, int, int) api.Prices = dual.Lower
	_ func(api.Instance, api.Prices, int, int) int        = dual.Slack
)

// Layer 18: bound.
var (
	_ func(api.Instance, api.Prices, int) int        = bound.Price
	_ func(api.Instance) int                         = bound.Least
	_ func(api.Instance, api.Prices) int             = bound.Value
	_ func(api.Instance) int                         = bound.Base
	_ func(api.Instance, api.Prices) int             = bound.Best
	_ func(api.Instance, int, int) (api.Prices, int) = bound.Climb
)

// Layer 19: horizon.
var (
	_ func(api.Instance, [][]int) ([][]api.Visit, api.Errno)       = horizon.Choose
	_ func(api.Instance, [][]api.Visit, int) []api.Stop            = horizon.Stops
	_ func(api.Instance, [][]api.Visit, int) (api.Plan, api.Errno) = horizon.Build
	_ func(api.Instance, int) (api.Plan, api.Errno)                = horizon.Start
	_ func(api.Plan, int) api.Plan                                 = horizon.Without
	_ func(api.Instance, api.Plan, int) []int                      = horizon.Prices
	_ func(api.Instance, api.Plan, int) (api.Plan, bool)           = horizon.Replan
	_ func(api.Instance, api.Plan, int, int) (api.Plan, bool)      = horizon.Pair
	_ func(api.Instance, api.Plan, int, int) (api.Plan, bool)      = horizon.Polish
)

// Layer 20: search.
var (
	_ func([]int) api.Script                                   = search.Read
	_ func(api.Instance, api.Plan, *draw.Stream, int) api.Plan = search.Round
	_ func(api.Instance, api.Script) (api.Plan, api.Errno)     = search.Run
	_ func(api.Instance, api.Script) []int                     = search.Costs
)

// Layer 21: planner.
var (
	_ func(string, []int) api.Report = planner.Plan
	_ func(api.Report) string        = planner.Print
	_ func(string, []int) string     = planner.Run
	_ func(string, string) bool      = planner.Accepts
)

package tests

import (
	"fmt"
	"math"
	"slices"
	"strconv"
	"strings"
	"testing"

	"loop.example/sortingoffice/impl"
)

// examplePlan is the plan of the document's example.
const examplePlan = "2 2 1200103 1200101 1200102"

// plan reads the text of a plan without the functions that are tested.
func plan(text string) impl.Plan {
	fields := strings.Fields(text)
	bins, err := strconv.Atoi(fields[0])
	if err != nil {
		panic(text)
	}
	passes, err := strconv.Atoi(fields[1])
	if err != nil {
		panic(text)
	}
	return impl.Plan{Bins: bins, Passes: passes, Order: fields[2:]}
}

// someOrder returns different codes whose order has nothing to do with their digits.
func someOrder(count int) []string {
	var order []string
	for i := range count {
		order = append(order, fmt.Sprintf("1%06d", (i*7919+13)*104729%1000000))
	}
	return order
}

// samplePlans has plans of all numbers of bins and passes, with one code, with several ones and with as many as there may be.
func samplePlans() []impl.Plan {
	list := []impl.Plan{plan(examplePlan), plan("4 2 0000000"), plan("2 4 1000019 1111119 1000108 1001018 1100008")}
	for bins := 2; bins <= 16; bins++ {
		full := 1
		for passes := 1; passes <= 4; passes++ {
			full = min(full*bins, 60)
			for _, count := range []int{1, full/2 + 1, full} {
				list = append(list, impl.Plan{Bins: bins, Passes: passes, Order: someOrder(count)})
			}
		}
	}
	return list
}

// invalidPlans has plans that are not valid, for each condition of one.
func invalidPlans() []impl.Plan {
	list := []impl.Plan{
		{}, {Bins: 2, Passes: 2}, {Bins: 2, Passes: 2, Order: []string{}}, {Order: []string{"1200103"}},
		{Bins: 16, Passes: 4, Order: someOrder(61)}, {Bins: 8, Passes: 3, Order: someOrder(512)},
		{Bins: 2, Passes: 1, Order: someOrder(3)}, {Bins: 2, Passes: 2, Order: someOrder(5)},
		{Bins: 2, Passes: 4, Order: someOrder(17)}, {Bins: 16, Passes: 1, Order: someOrder(17)},
		{Bins: 7, Passes: 2, Order: someOrder(50)}, {Bins: 3, Passes: 3, Order: someOrder(28)},
		{Bins: 2, Passes: 2, Order: []string{"1200103", "1200103"}},
		{Bins: 2, Passes: 2, Order: []string{"1200103", "1200101", "1200103"}},
		{Bins: 16, Passes: 4, Order: append(someOrder(59), someOrder(1)...)},
	}
	for _, n := range []int{math.MinInt, -16, -1, 0, 1, 17, 65536, math.MaxInt} {
		list = append(list, impl.Plan{Bins: n, Passes: 2, Order: []string{"1200103"}})
	}
	for _, n := range []int{math.MinInt, -4, -1, 0, 5, 64, math.MaxInt} {
		list = append(list, impl.Plan{Bins: 2, Passes: n, Order: []string{"1200103"}})
	}
	for _, c := range []string{"", "120010", "12001030", "120010x", "120-103", "-200103", "12001\xff3", "1200103 "} {
		list = append(list, impl.Plan{Bins: 4, Passes: 2, Order: []string{c}})
		list = append(list, impl.Plan{Bins: 4, Passes: 2, Order: []string{"1200101", "1200102", c}})
	}
	return list
}

// digitByHand writes a rank with the base bins and returns its digit for a pass, from the right.
func digitByHand(rank int, bins int, pass int) int {
	digits := "0000" + strconv.FormatInt(int64(rank), bins)
	d, err := strconv.ParseInt(digits[len(digits)-1-pass:][:1], bins, 0)
	if err != nil {
		panic(err)
	}
	return int(d)
}

// roundByHand returns the letters of one code of the round after the other, and the letters whose code is not in it.
func roundByHand(p impl.Plan, b []impl.Letter) ([]impl.Letter, []impl.Letter) {
	var round, strange []impl.Letter
	for _, c := range p.Order {
		for _, l := range b {
			if l.Code == c {
				round = append(round, l)
			}
		}
	}
	for _, l := range b {
		if !slices.Contains(p.Order, l.Code) {
			strange = append(strange, l)
		}
	}
	return round, strange
}

// roundBatch returns letters in no order for the codes of a plan and, for some of them, for codes that it does not have.
func roundBatch(d *dice, p impl.Plan, count int) []impl.Letter {
	var b []impl.Letter
	first := d.roll(9000) + 1
	for i := range count {
		code := p.Order[d.roll(len(p.Order))]
		if d.roll(5) == 0 {
			code = fmt.Sprintf("2%06d", d.roll(1000000))
		}
		b = append(b, impl.Letter{Id: first + i*7%61, Code: code})
	}
	return b
}

// wholeRound returns one letter for each code of a plan, shuffled.
func wholeRound(d *dice, p impl.Plan) []impl.Letter {
	var b []impl.Letter
	for i, c := range p.Order {
		b = slices.Insert(b, d.roll(i+1), impl.Letter{Id: 100 + i, Code: c})
	}
	return b
}

// batchesFor has batches for a plan, from none to the greatest.
func batchesFor(d *dice, p impl.Plan) [][]impl.Letter {
	return [][]impl.Letter{nil, {}, wholeRound(d, p), roundBatch(d, p, 1), roundBatch(d, p, 9), roundBatch(d, p, 60), manyLetters(3)}
}

// permutations returns all orders of letters.
func permutations(b []impl.Letter) [][]impl.Letter {
	if len(b) == 0 {
		return [][]impl.Letter{nil}
	}
	var all [][]impl.Letter
	for _, rest := range permutations(b[1:]) {
		for i := range b {
			all = append(all, slices.Insert(slices.Clone(rest), i, b[0]))
		}
	}
	return all
}

func checkPlan(t *testing.T, what string, got impl.Plan, ok bool, want impl.Plan) {
	t.Helper()
	if got.Bins != want.Bins || got.Passes != want.Passes || !slices.Equal(got.Order, want.Order) || !ok {
		t.Errorf("%s = %v, %v, not %v", what, got, ok, want)
	}
}

func checkNoPlan(t *testing.T, what string, got impl.Plan, ok bool) {
	t.Helper()
	if got.Bins != 0 || got.Passes != 0 || len(got.Order) != 0 || ok {
		t.Errorf("%s = %v, %v", what, got, ok)
	}
}

func checkNoPass(t *testing.T, p impl.Plan, b []impl.Letter, pass int) {
	t.Helper()
	if bins, rest, ok := impl.PlanPass(p, b, pass); len(bins) != 0 || len(rest) != 0 || ok {
		t.Errorf("PlanPass(%v, %v, %d) = %v, %v, %v", p, b, pass, bins, rest, ok)
	}
	if loads := impl.BinLoads(p, b, pass); len(loads) != 0 {
		t.Errorf("BinLoads(%v, %v, %d) = %v", p, b, pass, loads)
	}
}

func checkNoRun(t *testing.T, p impl.Plan, b []impl.Letter) {
	t.Helper()
	if round, strange, ok := impl.RunPlan(p, b); len(round) != 0 || len(strange) != 0 || ok {
		t.Errorf("RunPlan(%v, %v) = %v, %v, %v", p, b, round, strange, ok)
	}
	if impl.InOrder(p, b) {
		t.Errorf("InOrder(%v, %v) is true", p, b)
	}
	if n := impl.TreatCount(p, b); n != -1 {
		t.Errorf("TreatCount(%v, %v) = %d", p, b, n)
	}
}

func TestLimitsOfPlans(t *testing.T) {
	if impl.MinBins != 2 || impl.MaxBins != 16 || impl.MaxPasses != 4 || impl.MaxOrder != 60 {
		t.Error("limits", impl.MinBins, impl.MaxBins, impl.MaxPasses, impl.MaxOrder)
	}
}

func TestPlanValid(t *testing.T) {
	for _, p := range samplePlans() {
		if !impl.PlanValid(p) {
			t.Errorf("PlanValid(%v) is false", p)
		}
	}
	for _, p := range invalidPlans() {
		if impl.PlanValid(p) {
			t.Errorf("PlanValid(%v) is true", p)
		}
	}
}

// Each function of the chapter has a result of its own for a plan that is not valid.
func TestInvalidPlans(t *testing.T) {
	good := plan("2 2 0000000")
	for _, p := range invalidPlans() {
		if s := impl.FormatPlan(p); s != "" {
			t.Errorf("FormatPlan(%v) = %q", p, s)
		}
		for _, c := range append([]string{"1200103", ""}, p.Order...) {
			if rank, bin := impl.PlanRank(p, c), impl.PlanBin(p, c, 0); rank != -1 || bin != -1 {
				t.Errorf("PlanRank and PlanBin of %v and %q = %d and %d", p, c, rank, bin)
			}
		}
		for _, b := range [][]impl.Letter{nil, batch("1:1200103")} {
			checkNoPass(t, p, b, 0)
			checkNoRun(t, p, b)
		}
		x, ok := impl.TurnPlan(p)
		checkNoPlan(t, fmt.Sprintf("TurnPlan(%v)", p), x, ok)
		x, ok = impl.MovePoint(p, 0, 0)
		checkNoPlan(t, fmt.Sprintf("MovePoint(%v, 0, 0)", p), x, ok)
		x, ok = impl.JoinPlans(p, good)
		checkNoPlan(t, fmt.Sprintf("JoinPlans(%v, good)", p), x, ok)
		x, ok = impl.JoinPlans(good, p)
		checkNoPlan(t, fmt.Sprintf("JoinPlans(good, %v)", p), x, ok)
		x, ok = impl.JoinPlans(p, impl.Plan{Bins: p.Bins, Passes: p.Passes, Order: []string{"0000000"}})
		checkNoPlan(t, fmt.Sprintf("JoinPlans(%v, alike)", p), x, ok)
	}
}

func TestPlansWithInvalidBatches(t *testing.T) {
	for _, p := range []impl.Plan{plan(examplePlan), plan("2 1 1200107")} {
		for _, b := range invalidBatches() {
			checkNoPass(t, p, b, 0)
			checkNoRun(t, p, b)
		}
	}
}

func TestFormatPlan(t *testing.T) {
	for _, p := range samplePlans() {
		text := fmt.Sprintf("%d %d %s", p.Bins, p.Passes, strings.Join(p.Order, " "))
		if got := impl.FormatPlan(p); got != text {
			t.Errorf("FormatPlan(%v) = %q, not %q", p, got, text)
		}
		got, ok := impl.ParsePlan(text)
		checkPlan(t, "ParsePlan of "+text, got, ok, p)
	}
}

func TestParsePlanInvalid(t *testing.T) {
	texts := []string{
		"", " ", "-", "2", "2 ", "2 2", "2 2 ", "2 2 -", "- - -", "2 1200103", "1200103 2 2", "2 2 2 1200103", "x 2 1200103", "2 x 1200103",
		"0 2 1200103", "1 2 1200103", "17 2 1200103", "-2 2 1200103", "2 0 1200103", "2 5 1200103", "2 -1 1200103",
		"02 2 1200103", "2 02 1200103", "+2 2 1200103", "2 +2 1200103", "0x2 2 1200103", "2.0 2 1200103", "1_6 2 1200103", "\u0662 2 1200103",
		"18446744073709551618 2 1200103", "2 18446744073709551618 1200103", "-99999999999999999999 2 1200103", "2 4294967298 1200103",
		" 2 2 1200103", "2  2 1200103", "2 2  1200103", "2 2 1200103 ", "2 2 1200103  1200101", "2 2\t1200103", "2 2 1200103\n", "2,2,1200103",
		"2 2 120010", "2 2 12001030", "2 2 120010x", "2 2 12001\xff3", "2 2 120-01-03", "2 2 1200103 12", "2 2 1200103 -",
		"2 2 1200103 1200103", "2 2 1200103 1200101 1200103", "2 1 1200103 1200101 1200102", "2 2 0000000 0000001 0000002 0000003 0000004",
		"16 4 " + strings.Join(someOrder(61), " "), "16 1 " + strings.Join(someOrder(17), " "),
		strings.Repeat(" ", 100000), "2 2" + strings.Repeat(" 1200103", 10000), strings.Repeat("2 ", 10000),
	}
	for _, text := range texts {
		p, ok := impl.ParsePlan(text)
		checkNoPlan(t, fmt.Sprintf("ParsePlan(%q)", text), p, ok)
	}
}

func TestCapacityOf(t *testing.T) {
	cases := map[[2]int]int{
		{2, 1}: 2, {2, 2}: 4, {2, 3}: 8, {2, 4}: 16, {3, 1}: 3, {3, 2}: 9, {3, 3}: 27, {3, 4}: 81,
		{7, 2}: 49, {8, 2}: 64, {10, 3}: 1000, {10, 4}: 10000, {15, 4}: 50625, {16, 1}: 16, {16, 2}: 256, {16, 3}: 4096, {16, 4}: 65536,
	}
	for c, want := range cases {
		if got := impl.CapacityOf(c[0], c[1]); got != want {
			t.Errorf("CapacityOf(%d, %d) = %d, not %d", c[0], c[1], got, want)
		}
	}
	for _, n := range []int{math.MinInt, -2, -1, 0, 17, 18, math.MaxInt} {
		for good := 1; good <= 5; good++ {
			if bins, passes := impl.CapacityOf(n, good), impl.CapacityOf(good, n); bins != -1 || passes != -1 {
				t.Errorf("CapacityOf(%d, %d) = %d, and the other way round %d", n, good, bins, passes)
			}
		}
	}
	for _, c := range [][2]int{{1, 1}, {1, 4}, {2, 5}, {16, 5}, {2, 0}, {2, -1}} {
		if got := impl.CapacityOf(c[0], c[1]); got != -1 {
			t.Errorf("CapacityOf(%d, %d) = %d", c[0], c[1], got)
		}
	}
}

// leastByHand returns the first number from low to high that a list of capacities has room for.
func leastByHand(count int, low int, capacities []int) int {
	for i, capacity := range capacities {
		if count >= 0 && capacity >= count {
			return low + i
		}
	}
	return -1
}

func TestLeastBins(t *testing.T) {
	cases := [][3]int{
		{60, 1, -1}, {60, 2, 8}, {60, 3, 4}, {60, 4, 3}, {0, 1, 2}, {1, 4, 2}, {2, 1, 2}, {3, 1, 3}, {16, 1, 16}, {17, 1, -1},
		{49, 2, 7}, {50, 2, 8}, {256, 2, 16}, {257, 2, -1}, {4096, 3, 16}, {4097, 3, -1}, {65536, 4, 16}, {65537, 4, -1}, {50625, 4, 15}, {50626, 4, 16},
		{-1, 1, -1}, {-2, 2, -1}, {math.MinInt, 4, -1}, {math.MaxInt, 4, -1},
		{0, 0, -1}, {1, 0, -1}, {0, 5, -1}, {1, 5, -1}, {1, -1, -1}, {-1, 0, -1}, {-1, 5, -1}, {-5, -5, -1}, {0, math.MinInt, -1}, {0, math.MaxInt, -1},
	}
	for _, c := range cases {
		if got := impl.LeastBins(c[0], c[1]); got != c[2] {
			t.Errorf("LeastBins(%d, %d) = %d, not %d", c[0], c[1], got, c[2])
		}
	}
	squares := []int{4, 9, 16, 25, 36, 49, 64, 81, 100, 121, 144, 169, 196, 225, 256}
	for count := -3; count < 300; count++ {
		if got, want := impl.LeastBins(count, 2), leastByHand(count, 2, squares); got != want {
			t.Errorf("LeastBins(%d, 2) = %d, not %d", count, got, want)
		}
	}
}

func TestLeastPasses(t *testing.T) {
	cases := [][3]int{
		{60, 4, 3}, {60, 16, 2}, {60, 2, -1}, {0, 2, 1}, {0, 16, 1}, {2, 2, 1}, {3, 2, 2}, {16, 2, 4}, {17, 2, -1}, {16, 16, 1}, {17, 16, 2},
		{65536, 16, 4}, {65537, 16, -1}, {4096, 16, 3}, {4097, 16, 4}, {81, 3, 4}, {82, 3, -1},
		{-1, 2, -1}, {-2, 16, -1}, {math.MinInt, 2, -1}, {math.MaxInt, 16, -1},
		{0, 1, -1}, {1, 1, -1}, {0, 17, -1}, {1, 17, -1}, {0, 0, -1}, {1, -2, -1}, {-1, 1, -1}, {-1, 17, -1}, {0, math.MinInt, -1}, {0, math.MaxInt, -1},
	}
	for _, c := range cases {
		if got := impl.LeastPasses(c[0], c[1]); got != c[2] {
			t.Errorf("LeastPasses(%d, %d) = %d, not %d", c[0], c[1], got, c[2])
		}
	}
	for count := -3; count < 100; count++ {
		if got, want := impl.LeastPasses(count, 3), leastByHand(count, 1, []int{3, 9, 27, 81}); got != want {
			t.Errorf("LeastPasses(%d, 3) = %d, not %d", count, got, want)
		}
	}
}

func TestPlanRankAndBin(t *testing.T) {
	for _, p := range samplePlans() {
		for rank, c := range p.Order {
			if got := impl.PlanRank(p, c); got != rank {
				t.Errorf("PlanRank(%v, %q) = %d, not %d", p, c, got, rank)
			}
			for pass := range p.Passes {
				if got, want := impl.PlanBin(p, c, pass), digitByHand(rank, p.Bins, pass); got != want {
					t.Errorf("PlanBin(%v, %q, %d) = %d, not %d", p, c, pass, got, want)
				}
			}
			for _, pass := range []int{math.MinInt, -1, p.Passes, p.Passes + 1, 64, math.MaxInt} {
				if got := impl.PlanBin(p, c, pass); got != -1 {
					t.Errorf("PlanBin(%v, %q, %d) = %d", p, c, pass, got)
				}
			}
		}
		for _, c := range []string{"", "2000000", "120010", p.Order[0] + "0", p.Order[0][:6], "x", "12001\xff3", strings.Repeat("1", 100000)} {
			if rank, bin := impl.PlanRank(p, c), impl.PlanBin(p, c, 0); rank != -1 || bin != -1 {
				t.Errorf("PlanRank and PlanBin of %v and %q = %d and %d", p, c, rank, bin)
			}
		}
	}
}

func TestExamplePlan(t *testing.T) {
	p, ok := impl.ParsePlan(examplePlan)
	checkPlan(t, "ParsePlan", p, ok, impl.Plan{Bins: 2, Passes: 2, Order: []string{"1200103", "1200101", "1200102"}})
	for rank, want := range [][2]int{{0, 0}, {1, 0}, {0, 1}} {
		c := p.Order[rank]
		if got := impl.PlanRank(p, c); got != rank {
			t.Errorf("PlanRank of %q = %d", c, got)
		}
		if got := [2]int{impl.PlanBin(p, c, 0), impl.PlanBin(p, c, 1)}; got != want {
			t.Errorf("PlanBin of %q = %v, not %v", c, got, want)
		}
	}
}

func TestPlanPass(t *testing.T) {
	d := dice(3)
	for _, p := range samplePlans() {
		for _, b := range batchesFor(&d, p) {
			_, strange := roundByHand(p, b)
			for pass := range p.Passes {
				what := fmt.Sprintf("PlanPass(%v, %v, %d)", p, b, pass)
				bins, rest, ok := impl.PlanPass(p, b, pass)
				loads := impl.BinLoads(p, b, pass)
				if len(bins) != p.Bins || len(loads) != p.Bins || !ok {
					t.Fatalf("%s = %v, %v, and the loads are %v", what, bins, ok, loads)
				}
				checkLetters(t, what+", no rank", rest, strange)
				for i, bin := range bins {
					want := slices.DeleteFunc(slices.Clone(b), func(l impl.Letter) bool {
						rank := slices.Index(p.Order, l.Code)
						return rank < 0 || digitByHand(rank, p.Bins, pass) != i
					})
					checkLetters(t, fmt.Sprintf("%s, bin %d", what, i), bin, want)
					if loads[i] != len(want) {
						t.Errorf("BinLoads(%v, %v, %d) = %v, bin %d", p, b, pass, loads, i)
					}
				}
			}
			for _, pass := range []int{math.MinInt, -1, p.Passes, p.Passes + 1, 64, math.MaxInt} {
				checkNoPass(t, p, b, pass)
			}
		}
	}
}

// A round of one point uses the first bin alone, and the other bins are there without letters.
func TestEmptyBins(t *testing.T) {
	b := batch("3:1200103 1:2000000 2:1200103")
	for _, p := range []impl.Plan{plan("2 1 1200103"), plan("16 4 1200103"), plan("5 3 1200103")} {
		for pass := range p.Passes {
			bins, rest, ok := impl.PlanPass(p, b, pass)
			if len(bins) != p.Bins || idsOf(bins[0]) != "3 2" || idsOf(rest) != "1" || !ok {
				t.Errorf("PlanPass(%v, %d) = %v, %v, %v", p, pass, bins, rest, ok)
			}
			loads := make([]int, p.Bins)
			loads[0] = 2
			if got := impl.BinLoads(p, b, pass); !slices.Equal(got, loads) {
				t.Errorf("BinLoads(%v, %d) = %v", p, pass, got)
			}
			if got := impl.BinLoads(p, nil, pass); !slices.Equal(got, make([]int, p.Bins)) {
				t.Errorf("BinLoads(%v, %d) without letters = %v", p, pass, got)
			}
		}
		round, strange, ok := impl.RunPlan(p, b)
		if idsOf(round) != "3 2" || idsOf(strange) != "1" || !ok {
			t.Errorf("RunPlan(%v) = %v, %v, %v", p, round, strange, ok)
		}
	}
	if got := impl.BinLoads(plan("4 2 1200101 1200102 1200103 1200104 1200105"), batch("1:1200105 2:1200102"), 0); !slices.Equal(got, []int{1, 1, 0, 0}) {
		t.Errorf("BinLoads with empty bins at the end = %v", got)
	}
	if got := impl.BinLoads(plan("4 1 1200101 1200102 1200103 1200104"), batch("1:1200104 2:1200102"), 0); !slices.Equal(got, []int{0, 1, 0, 1}) {
		t.Errorf("BinLoads with empty bins between = %v", got)
	}
}

// Promise 3: as many passes as a plan has put all letters in the order of the round, here for all orders of few letters.
func TestRoundWhateverTheOrder(t *testing.T) {
	texts := []string{
		"2 1 1200103 1200101", "2 2 1200103 1200101 1200102", "2 2 1200103 1200101 1200102 1200100", "2 4 1200101 1200102 1200103 1200100",
		"3 1 1200102 1200103 1200101", "2 3 2000000 1200103 3000000 4000000 1200101 5000000 6000000 1200102", "16 4 1200103",
	}
	for _, text := range texts {
		p := plan(text)
		for _, b := range permutations(batch("1:1200102 2:1200104 3:1200101 4:1200103 5:1200102 6:1200100")) {
			want, strange := roundByHand(p, b)
			round, rest, ok := impl.RunPlan(p, b)
			if !ok || !impl.InOrder(p, round) {
				t.Errorf("RunPlan(%v, %v) = %v, %v, %v", p, b, round, rest, ok)
			}
			checkLetters(t, fmt.Sprintf("RunPlan(%v, %v)", p, b), round, want)
			checkLetters(t, fmt.Sprintf("RunPlan(%v, %v), no rank", p, b), rest, strange)
		}
	}
}

// Promise 3, for plans of all sizes, those with as many codes as they can have among them.
func TestRoundOfAllPlans(t *testing.T) {
	d := dice(4)
	for _, p := range samplePlans() {
		for _, b := range batchesFor(&d, p) {
			want, strange := roundByHand(p, b)
			round, rest, ok := impl.RunPlan(p, b)
			if !ok {
				t.Errorf("RunPlan(%v, %v) is false", p, b)
			}
			checkLetters(t, fmt.Sprintf("RunPlan(%v, %v)", p, b), round, want)
			checkLetters(t, fmt.Sprintf("RunPlan(%v, %v), no rank", p, b), rest, strange)
			if !impl.InOrder(p, want) || impl.InOrder(p, b) != slices.Equal(b, want) {
				t.Errorf("InOrder of %v for %v or %v", p, want, b)
			}
			if got := impl.TreatCount(p, b); got != len(want)*p.Passes+len(strange) {
				t.Errorf("TreatCount(%v, %v) = %d", p, b, got)
			}
		}
	}
}

// Passes that are done one by one give what RunPlan gives, and one pass less is not enough.
func TestPassesOneByOne(t *testing.T) {
	p := plan("2 3 1200101 1200102 1200103 1200104 1200105 1200106 1200107 1200108")
	b := batch("8:1200108 7:1200107 6:1200106 5:1200105 9:2000000 4:1200104 3:1200103 2:1200102 1:1200101")
	want := []string{"7 5 3 1 8 6 4 2", "5 1 6 2 7 3 8 4", "1 2 3 4 5 6 7 8"}
	row := b
	for pass, ids := range want {
		bins, _, ok := impl.PlanPass(p, row, pass)
		row = slices.Concat(bins...)
		if idsOf(row) != ids || !ok || impl.InOrder(p, row) != (pass == 2) {
			t.Errorf("after the pass %d the letters are %v, %v", pass, row, ok)
		}
	}
	if round, strange, ok := impl.RunPlan(p, b); idsOf(round) != want[2] || idsOf(strange) != "9" || !ok {
		t.Errorf("RunPlan = %v, %v, %v", round, strange, ok)
	}
}

func TestInOrder(t *testing.T) {
	p := plan(examplePlan)
	for _, text := range []string{"", "1:1200101", "1:1200103 2:1200101 3:1200102", "5:1200103 2:1200103 3:1200102 1:1200102"} {
		if !impl.InOrder(p, batch(text)) {
			t.Errorf("InOrder of %q is false", text)
		}
	}
	for _, text := range []string{"1:1200104", "1:1200103 2:1200104", "2:1200104 1:1200103", "1:1200101 2:1200103", "1:1200103 2:1200102 3:1200101", "1:1200103 2:1200104 3:1200101"} {
		if impl.InOrder(p, batch(text)) {
			t.Errorf("InOrder of %q is true", text)
		}
	}
}

func TestTurnPlan(t *testing.T) {
	x, ok := impl.TurnPlan(plan(examplePlan))
	checkPlan(t, "TurnPlan of the example", x, ok, plan("2 2 1200102 1200101 1200103"))
	for _, p := range samplePlans() {
		turned, ok := impl.TurnPlan(p)
		if turned.Bins != p.Bins || turned.Passes != p.Passes || len(turned.Order) != len(p.Order) || !ok {
			t.Fatalf("TurnPlan(%v) = %v, %v", p, turned, ok)
		}
		for i, c := range p.Order {
			if turned.Order[len(p.Order)-1-i] != c {
				t.Errorf("TurnPlan(%v) = %v", p, turned)
			}
		}
	}
}

func TestJoinPlans(t *testing.T) {
	for _, c := range [][3]string{
		{examplePlan, "2 2 1200109", "2 2 1200103 1200101 1200102 1200109"},
		{"2 2 1200109", examplePlan, "2 2 1200109 1200103 1200101 1200102"},
		{"16 1 0000002", "16 1 0000001", "16 1 0000002 0000001"},
		{"2 1 0000002", "2 1 0000001", "2 1 0000002 0000001"},
	} {
		x, ok := impl.JoinPlans(plan(c[0]), plan(c[1]))
		checkPlan(t, fmt.Sprintf("JoinPlans of %q and %q", c[0], c[1]), x, ok, plan(c[2]))
	}
	for _, c := range [][2]string{
		{examplePlan, examplePlan}, {examplePlan, "2 2 1200101"}, {examplePlan, "2 2 1200108 1200109"},
		{examplePlan, "3 2 1200109"}, {examplePlan, "2 3 1200109"}, {"3 2 1200109", examplePlan}, {"2 3 1200109", examplePlan},
		{"2 4 1200109", "4 2 1200108"}, {"2 1 1200103 1200101", "2 1 1200109"},
	} {
		x, ok := impl.JoinPlans(plan(c[0]), plan(c[1]))
		checkNoPlan(t, fmt.Sprintf("JoinPlans of %q and %q", c[0], c[1]), x, ok)
	}
	order := someOrder(61)
	for cut := 1; cut < 60; cut++ {
		p, q := impl.Plan{Bins: 8, Passes: 2, Order: order[:cut]}, impl.Plan{Bins: 8, Passes: 2, Order: order[cut:60]}
		x, ok := impl.JoinPlans(p, q)
		checkPlan(t, fmt.Sprintf("JoinPlans(%v, %v)", p, q), x, ok, impl.Plan{Bins: 8, Passes: 2, Order: order[:60]})
		q.Order = order[cut:]
		x, ok = impl.JoinPlans(p, q)
		checkNoPlan(t, fmt.Sprintf("JoinPlans(%v, %v)", p, q), x, ok)
	}
}

func TestMovePoint(t *testing.T) {
	for _, c := range []struct {
		from, to int
		order    string
	}{
		{0, 0, "a b c d"}, {0, 1, "b a c d"}, {0, 2, "b c a d"}, {0, 3, "b c d a"},
		{1, 0, "b a c d"}, {1, 1, "a b c d"}, {1, 2, "a c b d"}, {1, 3, "a c d b"},
		{2, 0, "c a b d"}, {2, 3, "a b d c"}, {3, 0, "d a b c"}, {3, 1, "a d b c"}, {3, 3, "a b c d"},
	} {
		codes := strings.NewReplacer("a", "1200103", "b", "1200101", "c", "1200104", "d", "1200102")
		p := plan("2 2 " + codes.Replace("a b c d"))
		x, ok := impl.MovePoint(p, c.from, c.to)
		checkPlan(t, fmt.Sprintf("MovePoint from %d to %d", c.from, c.to), x, ok, plan("2 2 "+codes.Replace(c.order)))
	}
	for _, p := range samplePlans() {
		for _, n := range []int{math.MinInt, -1, len(p.Order), len(p.Order) + 1, 60, math.MaxInt} {
			for _, move := range [][2]int{{n, 0}, {0, n}, {n, n}} {
				x, ok := impl.MovePoint(p, move[0], move[1])
				checkNoPlan(t, fmt.Sprintf("MovePoint(%v, %v)", p, move), x, ok)
			}
		}
	}
}

// What is moved there and back gives the plan again, and between it has the index to.
func TestMovePointAndBack(t *testing.T) {
	d := dice(6)
	for _, p := range samplePlans() {
		from, to := d.roll(len(p.Order)), d.roll(len(p.Order))
		moved, ok := impl.MovePoint(p, from, to)
		if !ok || impl.PlanRank(moved, p.Order[from]) != to {
			t.Errorf("MovePoint(%v, %d, %d) = %v, %v", p, from, to, moved, ok)
		}
		back, ok := impl.MovePoint(moved, to, from)
		checkPlan(t, fmt.Sprintf("MovePoint(%v, %d, %d) and back", p, from, to), back, ok, p)
	}
}

func TestTreatCount(t *testing.T) {
	b := batch("1:1200102 2:1200104 3:1200101 4:1200103 5:1200102")
	for text, want := range map[string]int{examplePlan: 9, "2 1 1200103": 5, "16 4 1200103": 8, "4 4 1200109": 5, "2 3 1200102": 9} {
		if got := impl.TreatCount(plan(text), b); got != want {
			t.Errorf("TreatCount for %q = %d, not %d", text, got, want)
		}
	}
	if got := impl.TreatCount(plan(examplePlan), nil); got != 0 {
		t.Errorf("TreatCount without letters = %d", got)
	}
}

// The results are spoiled, so that memory that they share with an argument or with each other shows.
func TestPlansShareNoMemory(t *testing.T) {
	p := plan("4 2 1200103 1200101 1200102 1200104 1200105")
	order, checkOrder := guarded(t, p.Order)
	p.Order = order
	q := plan("4 2 2000000 3000000")
	more, checkMore := guarded(t, q.Order)
	q.Order = more
	for what, change := range map[string]func() (impl.Plan, bool){
		"TurnPlan":               func() (impl.Plan, bool) { return impl.TurnPlan(p) },
		"JoinPlans":              func() (impl.Plan, bool) { return impl.JoinPlans(p, q) },
		"JoinPlans, turned":      func() (impl.Plan, bool) { return impl.JoinPlans(q, p) },
		"MovePoint to its place": func() (impl.Plan, bool) { return impl.MovePoint(p, 2, 2) },
		"MovePoint to the end":   func() (impl.Plan, bool) { return impl.MovePoint(p, 0, 4) },
		"MovePoint to the start": func() (impl.Plan, bool) { return impl.MovePoint(p, 4, 0) },
		"MovePoint forward":      func() (impl.Plan, bool) { return impl.MovePoint(p, 1, 3) },
		"MovePoint backward":     func() (impl.Plan, bool) { return impl.MovePoint(p, 3, 1) },
	} {
		x, ok := change()
		if !ok {
			t.Errorf("%s is false", what)
		}
		checkOrder(what)
		checkMore(what)
		spoil(x.Order)
		checkOrder(what + ", spoiled")
		checkMore(what + ", spoiled")
	}
}

func TestPassesShareNoMemory(t *testing.T) {
	for _, text := range []string{"4 2 1200103 1200101 1200102 1200104 1200105", "2 1 1200101 1200103", "16 4 1200101", "2 1 2000000"} {
		p := plan(text)
		b, check := guarded(t, batch("1:1200102 2:1200106 3:1200101 4:1200103 5:1200102 6:1200101 7:1200101 8:1200107"))
		for pass := range p.Passes {
			bins, rest, _ := impl.PlanPass(p, b, pass)
			for i, bin := range bins {
				spoil(bin)
				for _, later := range append(bins[i+1:], rest) {
					if slices.Contains(later, impl.Letter{}) {
						t.Errorf("PlanPass(%v, %d) has results with common memory", p, pass)
					}
				}
			}
			spoil(rest)
			spoil(impl.BinLoads(p, b, pass))
			check("PlanPass")
		}
		round, strange, _ := impl.RunPlan(p, b)
		spoil(round)
		if slices.Contains(strange, impl.Letter{}) {
			t.Errorf("RunPlan(%v) has results with common memory", p)
		}
		spoil(strange)
		check("RunPlan")
		impl.InOrder(p, b)
		impl.TreatCount(p, b)
		check("InOrder or TreatCount")
	}
}

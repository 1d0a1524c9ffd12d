package tests

import (
	"fmt"
	"math"
	"slices"
	"strconv"
	"strings"
	"testing"

	"loop.example/sortingoffice/impl"
)

// fourPoints is a plan whose bins are all used in both passes.
const fourPoints = "2 2 1200101 1200102 1200103 1200104"

// missorts reads the text of missorts, each of which is an Id, a > and a Bin.
func missorts(text string) []impl.Missort {
	var list []impl.Missort
	for _, field := range strings.Fields(text) {
		number, to, _ := strings.Cut(field, ">")
		id, err := strconv.Atoi(number)
		if err != nil {
			panic(text)
		}
		bin, err := strconv.Atoi(to)
		if err != nil {
			panic(text)
		}
		list = append(list, impl.Missort{Id: id, Bin: bin})
	}
	return list
}

// manyMissorts returns missorts with the Ids from 1 on and all the same bin.
func manyMissorts(count int, bin int) []impl.Missort {
	var list []impl.Missort
	for i := range count {
		list = append(list, impl.Missort{Id: i + 1, Bin: bin})
	}
	return list
}

// someMissorts returns missorts in no order of about one letter of three, and of one that is not there.
func someMissorts(d *dice, p impl.Plan, b []impl.Letter) []impl.Missort {
	var list []impl.Missort
	for _, l := range b {
		if d.roll(3) == 0 {
			list = append(list, impl.Missort{Id: l.Id, Bin: d.roll(p.Bins)})
		}
	}
	if len(list) < 60 {
		list = append(list, impl.Missort{Id: 9998, Bin: d.roll(p.Bins)})
	}
	return shuffled(d, list)
}

// allMissorts returns missorts of all letters, each into any bin, in all ways.
func allMissorts(b []impl.Letter, bins int) [][]impl.Missort {
	if len(b) == 0 {
		return [][]impl.Missort{nil}
	}
	var all [][]impl.Missort
	for _, rest := range allMissorts(b[1:], bins) {
		all = append(all, rest)
		for bin := range bins {
			all = append(all, append(slices.Clone(rest), impl.Missort{Id: b[0].Id, Bin: bin}))
		}
	}
	return all
}

// invalidMissorts has missorts that are not valid for a valid plan, for each condition.
func invalidMissorts(p impl.Plan) [][]impl.Missort {
	list := [][]impl.Missort{
		make([]impl.Missort, 1), make([]impl.Missort, 61), manyMissorts(61, 0), manyMissorts(1000, 1),
		missorts("1>0 1>1"), missorts("1>0 1>0"), missorts("7>1 8>0 9999>1 7>0"), append(manyMissorts(59, 0), manyMissorts(1, 1)...),
	}
	var bad []impl.Missort
	for _, id := range []int{math.MinInt, -1, 0, 10000, 10001, math.MaxInt} {
		bad = append(bad, impl.Missort{Id: id})
	}
	for _, bin := range []int{math.MinInt, -2, -1, p.Bins, p.Bins + 1, 64, math.MaxInt} {
		bad = append(bad, impl.Missort{Id: 1, Bin: bin}, impl.Missort{Id: 9999, Bin: bin})
	}
	for _, x := range bad {
		list = append(list, []impl.Missort{x}, append(missorts("5>0 6>1"), x), append([]impl.Missort{x}, missorts("5>0 6>1")...))
	}
	return list
}

// notPasses has numbers of passes that a plan does not have.
func notPasses(p impl.Plan) []int {
	return []int{math.MinInt, -1, p.Passes, p.Passes + 1, 64, math.MaxInt}
}

// binsOf reads the text of bins, with a | between two of them.
func binsOf(text string) [][]impl.Letter {
	var bins [][]impl.Letter
	for _, part := range strings.Split(text, "|") {
		bins = append(bins, batch(part))
	}
	return bins
}

// writeBins writes the Ids of the letters in bins, with a | between two bins.
func writeBins(bins [][]impl.Letter) string {
	var parts []string
	for _, bin := range bins {
		parts = append(parts, idsOf(bin))
	}
	return strings.Join(parts, "|")
}

// someBins puts letters into any bins, without regard to their codes.
func someBins(d *dice, p impl.Plan, b []impl.Letter) [][]impl.Letter {
	bins := make([][]impl.Letter, p.Bins)
	for _, l := range b {
		i := d.roll(p.Bins)
		bins[i] = append(bins[i], l)
	}
	return bins
}

// binByHand returns the bin where a letter belongs, or -1.
func binByHand(p impl.Plan, l impl.Letter, pass int) int {
	rank := slices.Index(p.Order, l.Code)
	if rank < 0 {
		return -1
	}
	return digitByHand(rank, p.Bins, pass)
}

// faultyPassByHand fills one bin after the other, and at last the row of letters that come into none.
func faultyPassByHand(p impl.Plan, b []impl.Letter, pass int, list []impl.Missort) ([][]impl.Letter, []impl.Letter) {
	rows := make([][]impl.Letter, p.Bins+1)
	for i := range rows {
		for _, l := range b {
			to := binByHand(p, l, pass)
			if k := slices.IndexFunc(list, func(x impl.Missort) bool { return x.Id == l.Id }); k >= 0 {
				to = list[k].Bin
			}
			if to == i || to < 0 && i == p.Bins {
				rows[i] = append(rows[i], l)
			}
		}
	}
	return rows[:p.Bins], rows[p.Bins]
}

// wrongByHand returns the wrong letters of bins.
func wrongByHand(p impl.Plan, bins [][]impl.Letter, pass int) []impl.Letter {
	var wrong []impl.Letter
	for i, bin := range bins {
		for _, l := range bin {
			if binByHand(p, l, pass) != i {
				wrong = append(wrong, l)
			}
		}
	}
	return wrong
}

// repairByHand fills each bin with its right letters and then with those of all wrong ones that belong there.
func repairByHand(p impl.Plan, bins [][]impl.Letter, pass int) ([][]impl.Letter, []impl.Letter) {
	wrong := wrongByHand(p, bins, pass)
	repaired := make([][]impl.Letter, p.Bins)
	var strange []impl.Letter
	for i, bin := range bins {
		for _, l := range bin {
			if !slices.Contains(wrong, l) {
				repaired[i] = append(repaired[i], l)
			}
		}
		for _, l := range wrong {
			if binByHand(p, l, pass) == i {
				repaired[i] = append(repaired[i], l)
			}
		}
	}
	for _, l := range wrong {
		if binByHand(p, l, pass) < 0 {
			strange = append(strange, l)
		}
	}
	return repaired, strange
}

// rankedByHand returns the letters that have a rank, sorted by a key of it.
func rankedByHand(p impl.Plan, b []impl.Letter, key func(rank int) int) []impl.Letter {
	var ranked []impl.Letter
	for _, l := range b {
		if slices.Contains(p.Order, l.Code) {
			ranked = append(ranked, l)
		}
	}
	slices.SortStableFunc(ranked, func(x impl.Letter, y impl.Letter) int {
		return key(slices.Index(p.Order, x.Code)) - key(slices.Index(p.Order, y.Code))
	})
	return ranked
}

func powerByHand(base int, exponent int) int {
	n := 1
	for range exponent {
		n *= base
	}
	return n
}

// beforeByHand sorts by what the passes before one see of the ranks.
func beforeByHand(p impl.Plan, b []impl.Letter, pass int) []impl.Letter {
	if pass == 0 {
		return b
	}
	return rankedByHand(p, b, func(rank int) int { return rank % powerByHand(p.Bins, pass) })
}

// finishByHand sorts by what the passes behind one see of the ranks.
func finishByHand(p impl.Plan, bins [][]impl.Letter, pass int) []impl.Letter {
	b := slices.Concat(bins...)
	if pass == p.Passes-1 {
		return b
	}
	return rankedByHand(p, b, func(rank int) int { return rank / powerByHand(p.Bins, pass+1) })
}

func checkBins(t *testing.T, what string, got [][]impl.Letter, rest []impl.Letter, ok bool, want [][]impl.Letter, wantRest []impl.Letter) {
	t.Helper()
	same := func(x []impl.Letter, y []impl.Letter) bool { return slices.Equal(x, y) }
	if !slices.EqualFunc(got, want, same) || !same(rest, wantRest) || !ok {
		t.Errorf("%s = %v, %v, %v, not %v, %v", what, got, rest, ok, want, wantRest)
	}
}

func checkRound(t *testing.T, what string, got []impl.Letter, ok bool, want []impl.Letter) {
	t.Helper()
	if !slices.Equal(got, want) || !ok {
		t.Errorf("%s = %v, %v, not %v", what, got, ok, want)
	}
}

func checkNoBins(t *testing.T, what string, bins [][]impl.Letter, rest []impl.Letter, ok bool) {
	t.Helper()
	if len(bins) != 0 || len(rest) != 0 || ok {
		t.Errorf("%s = %v, %v, %v", what, bins, rest, ok)
	}
}

// checkNoFault checks that no function does a faulty pass.
func checkNoFault(t *testing.T, p impl.Plan, b []impl.Letter, pass int, list []impl.Missort) {
	t.Helper()
	what := fmt.Sprintf("(%v, %v, %d, %v)", p, b, pass, list)
	bins, rest, ok := impl.FaultyPass(p, b, pass, list)
	checkNoBins(t, "FaultyPass"+what, bins, rest, ok)
	if x, ok := impl.RunRepaired(p, b, pass, list); len(x) != 0 || ok {
		t.Errorf("RunRepaired%s = %v, %v", what, x, ok)
	}
	if x, ok := impl.RunRestarted(p, b, pass, list); len(x) != 0 || ok {
		t.Errorf("RunRestarted%s = %v, %v", what, x, ok)
	}
}

// checkNotBins checks that no function takes lists of letters for bins of a pass.
func checkNotBins(t *testing.T, p impl.Plan, bins [][]impl.Letter, pass int) {
	t.Helper()
	what := fmt.Sprintf("(%v, %v, %d)", p, bins, pass)
	if ids := impl.WrongLetters(p, bins, pass); len(ids) != 0 {
		t.Errorf("WrongLetters%s = %v", what, ids)
	}
	repaired, rest, ok := impl.RepairBins(p, bins, pass)
	checkNoBins(t, "RepairBins"+what, repaired, rest, ok)
	if x, ok := impl.FinishPasses(p, bins, pass); len(x) != 0 || ok {
		t.Errorf("FinishPasses%s = %v, %v", what, x, ok)
	}
}

func TestMissortsValid(t *testing.T) {
	d := dice(31)
	for _, p := range samplePlans() {
		last := p.Bins - 1
		for _, list := range [][]impl.Missort{
			nil, {}, manyMissorts(60, 0), manyMissorts(60, last), {{Id: 1, Bin: 0}}, {{Id: 9999, Bin: last}},
			{{Id: 9999, Bin: 0}, {Id: 1, Bin: last}}, missorts("7>1 6>1 8>0"), someMissorts(&d, p, manyLetters(60)),
		} {
			if !impl.MissortsValid(p, list) {
				t.Errorf("MissortsValid(%v, %v) is false", p, list)
			}
		}
		for _, list := range invalidMissorts(p) {
			if impl.MissortsValid(p, list) {
				t.Errorf("MissortsValid(%v, %v) is true", p, list)
			}
		}
	}
	for _, p := range invalidPlans() {
		for _, list := range [][]impl.Missort{nil, missorts("1>0")} {
			if impl.MissortsValid(p, list) {
				t.Errorf("MissortsValid(%v, %v) is true", p, list)
			}
		}
	}
}

// The example of the document, and what becomes of the letters behind it.
func TestExampleMachine(t *testing.T) {
	p, b, list := plan(examplePlan), batch("1:1200102 2:1200101"), missorts("1>1")
	bins, rest, ok := impl.FaultyPass(p, b, 0, list)
	checkBins(t, "FaultyPass", bins, rest, ok, binsOf("|1:1200102 2:1200101"), nil)
	checkNumbers(t, "WrongLetters", impl.WrongLetters(p, bins, 0), []int{1})
	repaired, rest, ok := impl.RepairBins(p, bins, 0)
	checkBins(t, "RepairBins", repaired, rest, ok, binsOf("1:1200102|2:1200101"), nil)
	checkNumbers(t, "WrongLetters of the repaired bins", impl.WrongLetters(p, repaired, 0), nil)
	x, ok := impl.FinishPasses(p, repaired, 0)
	checkRound(t, "FinishPasses", x, ok, batch("2:1200101 1:1200102"))
	x, ok = impl.FinishPasses(p, bins, 0)
	checkRound(t, "FinishPasses of the faulty bins", x, ok, batch("2:1200101 1:1200102"))
	x, ok = impl.RunRepaired(p, b, 0, list)
	checkRound(t, "RunRepaired", x, ok, batch("2:1200101 1:1200102"))
	x, ok = impl.RunRestarted(p, b, 0, list)
	checkRound(t, "RunRestarted", x, ok, batch("2:1200101 1:1200102"))
}

func TestFaultyPass(t *testing.T) {
	d := dice(32)
	for _, p := range samplePlans() {
		for _, b := range batchesFor(&d, p) {
			for pass := range p.Passes {
				list := someMissorts(&d, p, b)
				what := fmt.Sprintf("FaultyPass(%v, %v, %d, %v)", p, b, pass, list)
				bins, rest, ok := impl.FaultyPass(p, b, pass, list)
				want, wantRest := faultyPassByHand(p, b, pass, list)
				checkBins(t, what, bins, rest, ok, want, wantRest)
			}
		}
	}
}

// Missorts that have no effect: none at all, those into the right bins, and those of letters that are not there.
func TestMissortsWithoutEffect(t *testing.T) {
	d := dice(33)
	for _, p := range samplePlans() {
		for _, b := range batchesFor(&d, p) {
			for pass := range p.Passes {
				want, wantRest, _ := impl.PlanPass(p, b, pass)
				var right, absent []impl.Missort
				for _, l := range b {
					if bin := binByHand(p, l, pass); bin >= 0 {
						right = append(right, impl.Missort{Id: l.Id, Bin: bin})
					}
					// No letter here has a number of this size.
					absent = append(absent, impl.Missort{Id: 9200 + len(absent), Bin: d.roll(p.Bins)})
				}
				for _, list := range [][]impl.Missort{nil, {}, right, absent} {
					what := fmt.Sprintf("FaultyPass(%v, %v, %d, %v)", p, b, pass, list)
					bins, rest, ok := impl.FaultyPass(p, b, pass, list)
					checkBins(t, what, bins, rest, ok, want, wantRest)
					checkNumbers(t, "WrongLetters behind "+what, impl.WrongLetters(p, bins, pass), nil)
				}
			}
		}
	}
}

func TestFaultyPassCases(t *testing.T) {
	letters := "1:1200102 2:1200101 3:1200109 4:1200103 5:1200108"
	for _, c := range []struct {
		pass                int
		list, bins, strange string
	}{
		{0, "", "1 4|2", "3 5"},
		{1, "", "2 4|1", "3 5"},
		{0, "1>1", "4|1 2", "3 5"},
		{0, "2>0", "1 2 4|", "3 5"},
		{0, "3>0", "1 3 4|2", "5"},
		{0, "5>1 3>1", "1 4|2 3 5", ""},
		{0, "1>1 2>0 3>0 4>1 5>0", "2 3 5|1 4", ""},
		{1, "1>0", "1 2 4|", "3 5"},
		{1, "4>1 3>0", "2 3|1 4", "5"},
		{1, "1>1 2>0 4>0", "2 4|1", "3 5"},
		{1, "9>1 9999>0", "2 4|1", "3 5"},
	} {
		bins, rest, ok := impl.FaultyPass(plan(examplePlan), batch(letters), c.pass, missorts(c.list))
		if writeBins(bins) != c.bins || idsOf(rest) != c.strange || !ok {
			t.Errorf("FaultyPass %d with %q = %v, %v, %v", c.pass, c.list, bins, rest, ok)
		}
	}
	bins, rest, ok := impl.FaultyPass(plan("3 1 1200103"), nil, 0, missorts("1>2"))
	checkBins(t, "FaultyPass without letters", bins, rest, ok, binsOf("||"), nil)
	bins, rest, ok = impl.FaultyPass(plan("2 1 1200103"), manyLetters(60), 0, manyMissorts(60, 1))
	checkBins(t, "FaultyPass of strange letters alone", bins, rest, ok, [][]impl.Letter{nil, manyLetters(60)}, nil)
}

func TestFaultyPassInvalid(t *testing.T) {
	for _, p := range invalidPlans() {
		for _, b := range [][]impl.Letter{nil, batch("1:1200103")} {
			checkNoFault(t, p, b, 0, nil)
			checkNoFault(t, p, b, 0, missorts("1>0"))
		}
	}
	for _, p := range []impl.Plan{plan(examplePlan), plan("2 1 1200107"), plan("16 4 1200103")} {
		b := batch("1:1200103 5:1200107")
		for _, pass := range notPasses(p) {
			checkNoFault(t, p, b, pass, nil)
			checkNoFault(t, p, nil, pass, missorts("1>0"))
		}
		for pass := range p.Passes {
			for _, x := range invalidBatches() {
				checkNoFault(t, p, x, pass, nil)
				checkNoFault(t, p, x, pass, missorts("1>0"))
			}
			for _, list := range invalidMissorts(p) {
				checkNoFault(t, p, b, pass, list)
				checkNoFault(t, p, nil, pass, list)
			}
		}
	}
}

// sampleBins has bins of a pass: empty ones, those that machines leave behind, and any others.
func sampleBins(d *dice, p impl.Plan, pass int) [][][]impl.Letter {
	list := [][][]impl.Letter{make([][]impl.Letter, p.Bins)}
	for _, b := range batchesFor(d, p) {
		faulty, _ := faultyPassByHand(p, b, pass, someMissorts(d, p, b))
		list = append(list, faulty, someBins(d, p, b))
	}
	return list
}

func TestWrongLettersAreRepaired(t *testing.T) {
	d := dice(34)
	for _, p := range samplePlans() {
		for pass := range p.Passes {
			for _, bins := range sampleBins(&d, p, pass) {
				what := fmt.Sprintf("(%v, %v, %d)", p, bins, pass)
				var wrong []int
				for _, l := range wrongByHand(p, bins, pass) {
					wrong = append(wrong, l.Id)
				}
				checkNumbers(t, "WrongLetters"+what, impl.WrongLetters(p, bins, pass), wrong)
				repaired, rest, ok := impl.RepairBins(p, bins, pass)
				want, wantRest := repairByHand(p, bins, pass)
				checkBins(t, "RepairBins"+what, repaired, rest, ok, want, wantRest)
				checkNumbers(t, "WrongLetters behind RepairBins"+what, impl.WrongLetters(p, repaired, pass), nil)
				again, none, ok := impl.RepairBins(p, repaired, pass)
				checkBins(t, "RepairBins twice"+what, again, none, ok, want, nil)
			}
		}
	}
}

func TestRepairBinsCases(t *testing.T) {
	for _, c := range []struct {
		plan, bins           string
		pass                 int
		wrong                []int
		repaired, strange    string
		finished, unrepaired string
	}{
		{fourPoints, "|", 0, nil, "|", "", "", ""},
		{fourPoints, "1:1200101 3:1200103|2:1200102 4:1200104", 0, nil, "1 3|2 4", "", "1 2 3 4", "1 2 3 4"},
		{fourPoints, "2:1200102 1:1200101|4:1200104", 0, []int{2}, "1|4 2", "", "1 2 4", "2 1 4"},
		// The wrong letters do not ascend, and come behind the right ones of their bins.
		{fourPoints, "9:1200102 1:1200101 7:1200104|8:1200103 4:1200104 6:1200101", 0, []int{9, 7, 8, 6}, "1 8 6|4 9 7", "", "1 6 9 8 4 7", "9 1 6 7 8 4"},
		{fourPoints, "5:1200102 3:1200101|4:1200101 2:1200102", 1, []int{4, 2}, "5 3 4 2|", "", "5 3 4 2", "5 3 4 2"},
		// Letters without a rank are wrong in every bin.
		{fourPoints, "8:2000000 1:1200101|7:2000001 2:1200102 6:2000000", 0, []int{8, 7, 6}, "1|2", "8 7 6", "1 2", "1 2"},
		{fourPoints, "8:2000000|7:2000001", 0, []int{8, 7}, "|", "8 7", "", ""},
		// Behind the last pass there is none in which a letter could fall out or change its place.
		{fourPoints, "8:2000000 4:1200104|1:1200101 7:2000001", 1, []int{8, 4, 1, 7}, "1|4", "8 7", "1 4", "8 4 1 7"},
		{"3 1 1200101 1200102 1200103", "3:1200103 5:2000000|2:1200102 1:1200101|", 0, []int{3, 5, 1}, "1|2|3", "5", "1 2 3", "3 5 2 1"},
	} {
		p, bins := plan(c.plan), binsOf(c.bins)
		what := fmt.Sprintf("of %q for %q in the pass %d", c.bins, c.plan, c.pass)
		checkNumbers(t, "WrongLetters "+what, impl.WrongLetters(p, bins, c.pass), c.wrong)
		repaired, rest, ok := impl.RepairBins(p, bins, c.pass)
		if writeBins(repaired) != c.repaired || idsOf(rest) != c.strange || !ok {
			t.Errorf("RepairBins %s = %v, %v, %v", what, repaired, rest, ok)
		}
		if x, ok := impl.FinishPasses(p, repaired, c.pass); idsOf(x) != c.finished || !ok {
			t.Errorf("FinishPasses %s, repaired, = %v, %v", what, x, ok)
		}
		if x, ok := impl.FinishPasses(p, bins, c.pass); idsOf(x) != c.unrepaired || !ok {
			t.Errorf("FinishPasses %s = %v, %v", what, x, ok)
		}
	}
}

func TestFinishPasses(t *testing.T) {
	d := dice(35)
	for _, p := range samplePlans() {
		for pass := range p.Passes {
			for _, bins := range sampleBins(&d, p, pass) {
				x, ok := impl.FinishPasses(p, bins, pass)
				checkRound(t, fmt.Sprintf("FinishPasses(%v, %v, %d)", p, bins, pass), x, ok, finishByHand(p, bins, pass))
			}
		}
	}
}

func TestNotBinsOfAPass(t *testing.T) {
	for _, p := range invalidPlans() {
		for count := range 4 {
			checkNotBins(t, p, make([][]impl.Letter, count), 0)
		}
		if p.Bins > 0 && p.Bins < 20 {
			bins := make([][]impl.Letter, p.Bins)
			bins[0] = batch("1:1200103")
			checkNotBins(t, p, bins, 0)
		}
	}
	for _, p := range []impl.Plan{plan(examplePlan), plan("2 1 1200107"), plan("16 4 1200103")} {
		good := make([][]impl.Letter, p.Bins)
		good[1] = batch("1:1200103 5:1200107 3:2000000")
		for _, pass := range notPasses(p) {
			checkNotBins(t, p, good, pass)
			checkNotBins(t, p, make([][]impl.Letter, p.Bins), pass)
		}
		for pass := range p.Passes {
			for _, bins := range [][][]impl.Letter{nil, good[1:], good[:p.Bins-1], append(slices.Clone(good), nil), make([][]impl.Letter, 10000)} {
				checkNotBins(t, p, bins, pass)
			}
			for _, b := range invalidBatches() {
				bins := make([][]impl.Letter, p.Bins)
				bins[p.Bins-1] = b
				checkNotBins(t, p, bins, pass)
				// The letters of each bin alone may be a batch.
				bins[0], bins[p.Bins-1] = b[:1], b[1:]
				checkNotBins(t, p, bins, pass)
			}
		}
	}
}

// checkRuns checks both ways of doing a faulty pass against what is known of them.
func checkRuns(t *testing.T, p impl.Plan, b []impl.Letter, pass int, list []impl.Missort) {
	t.Helper()
	what := fmt.Sprintf("(%v, %v, %d, %v)", p, b, pass, list)
	faulty, _ := faultyPassByHand(p, beforeByHand(p, b, pass), pass, list)
	repaired, _ := repairByHand(p, faulty, pass)
	x, ok := impl.RunRepaired(p, b, pass, list)
	checkRound(t, "RunRepaired"+what, x, ok, finishByHand(p, repaired, pass))
	want, _ := roundByHand(p, slices.Concat(faulty...))
	y, ok := impl.RunRestarted(p, b, pass, list)
	checkRound(t, "RunRestarted"+what, y, ok, want)
	checkPromise(t, p, b, pass, x, y)
}

// checkPromise checks promise 7: the letters of the round are all there, and in its order unless a later pass was repaired.
// Letters with the same code may come in another order than without the fault.
func checkPromise(t *testing.T, p impl.Plan, b []impl.Letter, pass int, repaired []impl.Letter, restarted []impl.Letter) {
	t.Helper()
	want, _ := roundByHand(p, b)
	codes := map[string]bool{}
	for _, l := range want {
		codes[l.Code] = true
	}
	for _, x := range [][]impl.Letter{repaired, restarted} {
		if len(x) != len(want) || len(impl.MissingIds(want, x)) != 0 {
			t.Errorf("for %v, %v and a fault in the pass %d there are the letters %v", p, b, pass, x)
		}
	}
	if !impl.InOrder(p, restarted) || len(codes) == len(want) && !slices.Equal(restarted, want) {
		t.Errorf("for %v, %v and a fault in the pass %d RunRestarted has the order %v", p, b, pass, restarted)
	}
	if pass == 0 && (!impl.InOrder(p, repaired) || len(codes) == len(want) && !slices.Equal(repaired, want)) {
		t.Errorf("for %v and %v RunRepaired has the order %v", p, b, repaired)
	}
}

// Promise 7, for all missorts of few letters in all orders.
func TestAllFaultsOfFewLetters(t *testing.T) {
	for _, text := range []string{examplePlan, fourPoints, "2 3 1200101 1200103 1200102 1200104 1200105", "3 1 1200103 1200102 1200101"} {
		p := plan(text)
		for _, letters := range []string{"1:1200102 2:1200101 3:1200103 4:1200104", "1:1200103 2:1200101 3:1200103 4:2000000"} {
			for _, b := range permutations(batch(letters)) {
				for _, list := range allMissorts(b, p.Bins) {
					for pass := range p.Passes {
						checkRuns(t, p, b, pass, list)
					}
				}
			}
		}
	}
}

// Promise 7, for plans of all sizes and batches of all sizes.
func TestSomeFaults(t *testing.T) {
	d := dice(36)
	for _, p := range samplePlans() {
		for _, b := range batchesFor(&d, p) {
			for pass := range p.Passes {
				checkRuns(t, p, b, pass, someMissorts(&d, p, b))
				checkRuns(t, p, b, pass, nil)
			}
		}
	}
}

func TestRunsCases(t *testing.T) {
	for _, c := range []struct {
		letters             string
		pass                int
		list                string
		repaired, restarted string
	}{
		{"", 0, "1>1", "", ""},
		{"4:1200104 3:1200103 2:1200102 1:1200101", 0, "", "1 2 3 4", "1 2 3 4"},
		{"4:1200104 3:1200103 2:1200102 1:1200101", 1, "", "1 2 3 4", "1 2 3 4"},
		{"4:1200104 3:1200103 2:1200102 1:1200101", 0, "1>1 2>0 3>1 4>0", "1 2 3 4", "1 2 3 4"},
		// A fault of the last pass that is repaired may show: the letter 1 comes behind the letter 2, and both belong into the same bin.
		{"4:1200104 3:1200103 2:1200102 1:1200101", 1, "1>1", "2 1 3 4", "1 2 3 4"},
		{"4:1200104 3:1200103 2:1200102 1:1200101", 1, "2>1", "1 2 3 4", "1 2 3 4"},
		{"4:1200104 3:1200103 2:1200102 1:1200101", 1, "1>1 2>1 3>0", "1 2 4 3", "1 2 3 4"},
		{"4:1200104 3:1200103 2:1200102 1:1200101", 1, "1>0 2>0 3>1 4>1", "1 2 3 4", "1 2 3 4"},
		// Letters with the same code remain in the order in which the fault leaves them.
		{"1:1200101 2:1200101 3:1200101", 0, "1>1", "2 3 1", "2 3 1"},
		{"1:1200101 2:1200101 3:1200101", 1, "2>1", "1 3 2", "1 3 2"},
		{"1:1200102 2:1200102 3:1200102", 0, "3>0", "1 2 3", "3 1 2"},
		// Letters without a rank are not in the round, wherever a machine puts them.
		{"1:2000000 2:1200102 3:2000001 4:1200101", 0, "1>0 3>1", "4 2", "4 2"},
		{"1:2000000 2:1200102 3:2000001 4:1200101", 1, "1>0 3>1", "4 2", "4 2"},
		{"1:2000000", 1, "1>1", "", ""},
	} {
		x, ok := impl.RunRepaired(plan(fourPoints), batch(c.letters), c.pass, missorts(c.list))
		if idsOf(x) != c.repaired || !ok {
			t.Errorf("RunRepaired of %q and %q in the pass %d = %v, %v", c.letters, c.list, c.pass, x, ok)
		}
		x, ok = impl.RunRestarted(plan(fourPoints), batch(c.letters), c.pass, missorts(c.list))
		if idsOf(x) != c.restarted || !ok {
			t.Errorf("RunRestarted of %q and %q in the pass %d = %v, %v", c.letters, c.list, c.pass, x, ok)
		}
	}
	// The line "fault 0 1 1" of the example of chapter 8.
	x, ok := impl.RunRepaired(plan(examplePlan), batch("1:1200102 2:1200104 3:1200101 4:1200103 5:1200106"), 0, missorts("1>1"))
	if idsOf(x) != "4 3 1" || !ok {
		t.Errorf("RunRepaired = %v, %v", x, ok)
	}
}

// The results are spoiled, so that memory that they share with an argument or with each other shows.
func TestMachinesShareNoMemory(t *testing.T) {
	d := dice(37)
	for _, p := range samplePlans()[:30] {
		order, checkOrder := guarded(t, p.Order)
		p.Order = order
		for _, sample := range batchesFor(&d, p) {
			b, checkB := guarded(t, sample)
			list, checkList := guarded(t, someMissorts(&d, p, b))
			check := func(what string) {
				t.Helper()
				checkOrder(what)
				checkB(what)
				checkList(what)
			}
			for pass := range p.Passes {
				impl.MissortsValid(p, list)
				bins, rest, _ := impl.FaultyPass(p, b, pass, list)
				spoilBins(t, "FaultyPass", bins, rest)
				check("FaultyPass")
				x, _ := impl.RunRepaired(p, b, pass, list)
				spoil(x)
				check("RunRepaired")
				x, _ = impl.RunRestarted(p, b, pass, list)
				spoil(x)
				check("RunRestarted")
			}
		}
	}
}

// spoilBins spoils lists of letters one after the other, and checks that this does not change those that come later.
func spoilBins(t *testing.T, what string, bins [][]impl.Letter, rest []impl.Letter) {
	t.Helper()
	for i, bin := range bins {
		spoil(bin)
		for _, later := range append(slices.Clone(bins[i+1:]), rest) {
			if slices.Contains(later, impl.Letter{}) {
				t.Errorf("%s has results with common memory", what)
			}
		}
	}
	spoil(bins)
	spoil(rest)
}

func TestRepairsShareNoMemory(t *testing.T) {
	d := dice(38)
	for _, p := range samplePlans()[:30] {
		order, checkOrder := guarded(t, p.Order)
		p.Order = order
		for pass := range p.Passes {
			for _, sample := range sampleBins(&d, p, pass) {
				checks := []func(string){checkOrder}
				inner := slices.Clone(sample)
				for i, bin := range inner {
					list, check := guarded(t, bin)
					inner[i] = list
					checks = append(checks, check)
				}
				bins, check := guarded(t, inner)
				checks = append(checks, check)
				spoil(impl.WrongLetters(p, bins, pass))
				repaired, rest, _ := impl.RepairBins(p, bins, pass)
				spoilBins(t, "RepairBins", repaired, rest)
				x, _ := impl.FinishPasses(p, bins, pass)
				spoil(x)
				for _, check := range checks {
					check("a function for bins")
				}
			}
		}
	}
}

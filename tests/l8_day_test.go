package tests

import (
	"fmt"
	"runtime"
	"slices"
	"strings"
	"sync"
	"testing"
	"time"

	"loop.example/sortingoffice/impl"
)

// exampleDay is the day of the document's example, with another letter that never arrives.
func exampleDay() impl.Day {
	return impl.Day{Plan: plan(examplePlan), Forwards: forwards("1200104>1200101 1200107>1200107"), Held: []string{"1200106"}, Size: 3}
}

// someDay returns a day whose orders lead to codes of the round, to others, to held ones, and in circles.
func someDay(d *dice) impl.Day {
	plans := samplePlans()
	day := impl.Day{Plan: plans[d.roll(len(plans))], Size: 1 + d.roll(20)}
	codes := slices.Concat(day.Plan.Order, []string{"2000000", "2000001", "2000002", "2000003"})
	for _, from := range shuffled(d, codes)[:d.roll(min(len(codes), 30)+1)] {
		day.Forwards = append(day.Forwards, impl.Forward{From: from, To: codes[d.roll(len(codes))]})
	}
	for range d.roll(min(len(codes), 30) + 1) {
		day.Held = append(day.Held, codes[d.roll(len(codes))])
	}
	return day
}

// sampleDays has days with and without orders and held codes.
func sampleDays() []impl.Day {
	d := dice(51)
	list := []impl.Day{
		exampleDay(),
		{Plan: plan("4 2 0000000"), Size: 10},
		{Plan: plan(examplePlan), Forwards: []impl.Forward{}, Held: []string{}, Size: 1},
		{Plan: plan(fourPoints), Forwards: ring(1200101, 4), Held: []string{"1200101"}, Size: 20},
		{Plan: plan(fourPoints), Forwards: chain(1200101, 30), Held: []string{"1200131"}, Size: 20},
		{Plan: plan(fourPoints), Forwards: star(1200200, 30, "1200104"), Held: slices.Repeat([]string{"1200104"}, 30), Size: 7},
		{Plan: impl.Plan{Bins: 16, Passes: 4, Order: someOrder(60)}, Held: someOrder(30), Size: 20},
	}
	for range 150 {
		list = append(list, someDay(&d))
	}
	return list
}

// dayBatch returns letters for codes of the plan, of orders, of held codes, and for others.
func dayBatch(d *dice, day impl.Day, count int) []impl.Letter {
	codes := slices.Concat(day.Plan.Order, day.Held, codesIn(day.Forwards))
	b := roundBatch(d, day.Plan, count)
	for i := range b {
		if d.roll(2) == 0 {
			b[i].Code = codes[d.roll(len(codes))]
		}
	}
	return b
}

// invalidDays has days that are not valid, for each condition.
func invalidDays() []impl.Day {
	good := exampleDay()
	list := []impl.Day{{}, {Plan: good.Plan}, {Plan: good.Plan, Forwards: good.Forwards, Held: good.Held}}
	for _, p := range invalidPlans() {
		list = append(list, impl.Day{Plan: p, Forwards: good.Forwards, Held: good.Held, Size: good.Size})
	}
	for _, f := range invalidForwards() {
		list = append(list, impl.Day{Plan: good.Plan, Forwards: f, Held: good.Held, Size: good.Size})
	}
	for _, n := range notTraySizes {
		list = append(list, impl.Day{Plan: good.Plan, Forwards: good.Forwards, Held: good.Held, Size: n})
	}
	held := [][]string{someOrder(31), slices.Repeat([]string{"1200106"}, 31), make([]string, 1), make([]string, 1000)}
	for _, c := range notCodes() {
		held = append(held, []string{c}, []string{"1200106", c}, []string{c, "1200106"})
	}
	for _, h := range held {
		list = append(list, impl.Day{Plan: good.Plan, Forwards: good.Forwards, Held: h, Size: good.Size})
	}
	return list
}

// fateByHand follows the orders for a code, and tells what becomes of its letters.
func fateByHand(day impl.Day, c string) (string, string) {
	end, _, ok := arriveByHand(day.Forwards, c)
	if !ok {
		return c, "stuck"
	}
	if slices.Contains(day.Held, end) {
		return end, "held"
	}
	if slices.Contains(day.Plan.Order, end) {
		return end, "round"
	}
	return end, "strange"
}

// reportByHand puts letters into the parts of a report one by one.
func reportByHand(day impl.Day, b []impl.Letter) impl.Report {
	var r impl.Report
	var sorted []impl.Letter
	for _, l := range b {
		end, fate := fateByHand(day, l.Code)
		l.Code = end
		switch fate {
		case "round":
			sorted = append(sorted, l)
		case "strange":
			r.Strange = append(r.Strange, l)
		case "held":
			r.Held = append(r.Held, l)
		case "stuck":
			r.Stuck = append(r.Stuck, l)
		}
	}
	r.Round, _ = roundByHand(day.Plan, sorted)
	return r
}

// writeLetters writes letters with a - if there are none.
func writeLetters(b []impl.Letter) string {
	var items []string
	for _, l := range b {
		items = append(items, fmt.Sprintf("%d:%s", l.Id, l.Code))
	}
	if len(items) == 0 {
		return "-"
	}
	return strings.Join(items, " ")
}

func writeReport(r impl.Report) string {
	return strings.Join([]string{writeLetters(r.Round), writeLetters(r.Strange), writeLetters(r.Held), writeLetters(r.Stuck)}, "/")
}

func isNoReport(r impl.Report) bool {
	return len(r.Round)+len(r.Strange)+len(r.Held)+len(r.Stuck) == 0
}

func checkDay(t *testing.T, day impl.Day, b []impl.Letter, want impl.Report) {
	t.Helper()
	r, ok := impl.RunDay(day, b)
	what := fmt.Sprintf("RunDay(%v, %v)", day, b)
	checkLetters(t, what+", round", r.Round, want.Round)
	checkLetters(t, what+", strange", r.Strange, want.Strange)
	checkLetters(t, what+", held", r.Held, want.Held)
	checkLetters(t, what+", stuck", r.Stuck, want.Stuck)
	if !ok {
		t.Errorf("%s is false", what)
	}
	if got := impl.FormatReport(want); got != writeReport(want) {
		t.Errorf("FormatReport(%v) = %q", want, got)
	}
	if !impl.CheckReport(day, b, want) {
		t.Errorf("CheckReport(%v, %v, %v) is false", day, b, want)
	}
	x, ok := impl.DayTrays(day, b)
	checkTrays(t, fmt.Sprintf("DayTrays(%v, %v)", day, b), x, ok, fillByHand(want.Round, day.Size, 0))
}

func checkNoDay(t *testing.T, day impl.Day, b []impl.Letter) {
	t.Helper()
	if r, ok := impl.RunDay(day, b); !isNoReport(r) || ok {
		t.Errorf("RunDay(%v, %v) = %v, %v", day, b, r, ok)
	}
	for _, r := range []impl.Report{{}, {Round: b}, {Strange: b}, reportByHand(exampleDay(), batch("1:1200101"))} {
		if impl.CheckReport(day, b, r) {
			t.Errorf("CheckReport(%v, %v, %v) is true", day, b, r)
		}
	}
	x, ok := impl.DayTrays(day, b)
	checkNoTrays(t, fmt.Sprintf("DayTrays(%v, %v)", day, b), x, ok)
}

func checkFate(t *testing.T, day impl.Day, c string, code string, fate string) {
	t.Helper()
	if gotCode, gotFate := impl.FateOf(day, c); gotCode != code || gotFate != fate {
		t.Errorf("FateOf(%v, %q) = %q, %q, not %q, %q", day, c, gotCode, gotFate, code, fate)
	}
}

func TestDayValid(t *testing.T) {
	for _, day := range sampleDays() {
		if !impl.DayValid(day) {
			t.Errorf("DayValid(%v) is false", day)
		}
	}
	for _, day := range invalidDays() {
		if impl.DayValid(day) {
			t.Errorf("DayValid(%v) is true", day)
		}
	}
	day := exampleDay()
	for size := 1; size <= 20; size++ {
		day.Size = size
		if !impl.DayValid(day) {
			t.Errorf("DayValid is false for the size %d", size)
		}
	}
	for _, p := range samplePlans() {
		for _, list := range sampleForwards()[:20] {
			if day := (impl.Day{Plan: p, Forwards: list, Size: 1}); !impl.DayValid(day) {
				t.Errorf("DayValid(%v) is false", day)
			}
		}
	}
}

// Each function of the chapter has a result of its own for a day that is not valid.
func TestInvalidDays(t *testing.T) {
	for _, day := range invalidDays() {
		checkNoDay(t, day, nil)
		checkNoDay(t, day, batch("1:1200102 2:1200104"))
		for _, c := range []string{"1200102", "1200104", "1200106", "1200107", "1200109", "", "x"} {
			checkFate(t, day, c, "", "")
		}
	}
	for _, day := range []impl.Day{exampleDay(), {Plan: plan("2 1 1200107"), Size: 20}} {
		for _, b := range invalidBatches() {
			checkNoDay(t, day, b)
		}
		for _, c := range notCodes() {
			checkFate(t, day, c, "", "")
		}
	}
	for _, b := range invalidBatches() {
		checkNoDay(t, impl.Day{}, b)
	}
}

// The day of the document's example.
func TestExampleDay(t *testing.T) {
	day := exampleDay()
	b := batch("1:1200102 2:1200104 3:1200101 4:1200103 5:1200106")
	checkDay(t, day, b, impl.Report{Round: batch("4:1200103 2:1200101 3:1200101 1:1200102"), Held: batch("5:1200106")})
	checkDay(t, day, append(b, batch("6:1200107 7:1200109")...), impl.Report{
		Round: batch("4:1200103 2:1200101 3:1200101 1:1200102"), Strange: batch("7:1200109"), Held: batch("5:1200106"), Stuck: batch("6:1200107"),
	})
	checkFate(t, day, "1200104", "1200101", "round")
	checkFate(t, day, "1200101", "1200101", "round")
	checkFate(t, day, "1200106", "1200106", "held")
	checkFate(t, day, "1200107", "1200107", "stuck")
	checkFate(t, day, "1200109", "1200109", "strange")
}

// Letters are held by the codes at which they arrive, and not by their own ones.
func TestHeldBehindForwards(t *testing.T) {
	day := impl.Day{Plan: plan(examplePlan), Size: 2}
	b := batch("1:1200101 2:1200102 3:1200103 4:1200104 5:1200105")
	for _, c := range []struct{ orders, held, round, strange, kept, stuck string }{
		{"", "", "3:1200103 1:1200101 2:1200102", "4:1200104 5:1200105", "", ""},
		{"1200104>1200101", "1200101", "3:1200103 2:1200102", "5:1200105", "1:1200101 4:1200101", ""},
		{"1200101>1200104", "1200101", "3:1200103 2:1200102", "1:1200104 4:1200104 5:1200105", "", ""},
		{"1200101>1200104", "1200104", "3:1200103 2:1200102", "5:1200105", "1:1200104 4:1200104", ""},
		{"1200101>1200104", "1200101 1200104 1200101", "3:1200103 2:1200102", "5:1200105", "1:1200104 4:1200104", ""},
		{"1200105>1200104 1200104>1200103", "1200104", "3:1200103 4:1200103 5:1200103 1:1200101 2:1200102", "", "", ""},
		{"1200105>1200104 1200104>1200103", "1200103", "1:1200101 2:1200102", "", "3:1200103 4:1200103 5:1200103", ""},
		// A held code does not stop letters that go round for ever.
		{"1200101>1200102 1200102>1200101 1200104>1200101", "1200101 1200102", "3:1200103", "5:1200105", "", "1:1200101 2:1200102 4:1200104"},
		{"1200101>1200101", "1200101", "3:1200103 2:1200102", "4:1200104 5:1200105", "", "1:1200101"},
		// Neither a held code nor the end of orders needs a place in the round.
		{"1200103>2000000", "1200109 1200105", "1:1200101 2:1200102", "3:2000000 4:1200104", "5:1200105", ""},
		{"1200101>2000000 1200102>2000000 1200103>2000000 1200104>2000000 1200105>2000000", "2000000", "", "", "1:2000000 2:2000000 3:2000000 4:2000000 5:2000000", ""},
	} {
		day.Forwards, day.Held = forwards(c.orders), strings.Fields(c.held)
		checkDay(t, day, b, impl.Report{Round: batch(c.round), Strange: batch(c.strange), Held: batch(c.kept), Stuck: batch(c.stuck)})
		for _, l := range b {
			code, fate := fateByHand(day, l.Code)
			checkFate(t, day, l.Code, code, fate)
		}
	}
}

// Letters for codes without a place are strange, in the order of the batch and not in that of their codes.
func TestStrangeLetters(t *testing.T) {
	day := impl.Day{Plan: plan("2 1 1200101"), Size: 20}
	checkDay(t, day, nil, impl.Report{})
	checkDay(t, day, []impl.Letter{}, impl.Report{})
	checkDay(t, day, batch("9:2000002 8:2000001 7:2000003 6:2000001"), impl.Report{Strange: batch("9:2000002 8:2000001 7:2000003 6:2000001")})
	day.Forwards = forwards("2000001>1200101 1200101>2000009")
	checkDay(t, day, batch("9:1200101 8:2000001 7:2000003"), impl.Report{Strange: batch("9:2000009 8:2000009 7:2000003")})
}

// Promise 8: what becomes of a letter depends on its code alone, no letter is lost, and those of the round are in its order.
func TestDays(t *testing.T) {
	d := dice(52)
	for _, day := range sampleDays() {
		for _, count := range []int{0, 1, 9, 60} {
			b := dayBatch(&d, day, count)
			checkDay(t, day, b, reportByHand(day, b))
			r, _ := impl.RunDay(day, b)
			checkFates(t, day, b, r)
			checkNoneLost(t, day, b, r)
			if ordered, _ := roundByHand(day.Plan, r.Round); !slices.Equal(r.Round, ordered) || !impl.InOrder(day.Plan, r.Round) {
				t.Errorf("RunDay(%v, %v) has the round %v, which is not in its order", day, b, r.Round)
			}
		}
		checkFate(t, day, "7777777", "7777777", "strange")
	}
}

// checkFates checks that each letter is where FateOf its code says, with the code that FateOf gives.
func checkFates(t *testing.T, day impl.Day, b []impl.Letter, r impl.Report) {
	t.Helper()
	parts := map[string][]impl.Letter{"round": r.Round, "strange": r.Strange, "held": r.Held, "stuck": r.Stuck}
	for _, l := range b {
		code, fate := fateByHand(day, l.Code)
		checkFate(t, day, l.Code, code, fate)
		if !slices.Contains(parts[fate], impl.Letter{Id: l.Id, Code: code}) {
			t.Errorf("RunDay(%v, %v) does not have the letter %v in %s", day, b, l, fate)
		}
	}
}

// checkNoneLost checks that each letter is in one part of a report, once.
func checkNoneLost(t *testing.T, day impl.Day, b []impl.Letter, r impl.Report) {
	t.Helper()
	before, after := []int{}, []int{}
	for _, l := range b {
		before = append(before, l.Id)
	}
	for _, l := range slices.Concat(r.Round, r.Strange, r.Held, r.Stuck) {
		after = append(after, l.Id)
	}
	slices.Sort(before)
	slices.Sort(after)
	if !slices.Equal(before, after) {
		t.Errorf("RunDay(%v, %v) has the letters %v", day, b, after)
	}
}

// Promise 8: whatever other letters there are and in which order, a letter comes into the same part with the same code.
func TestFateWhateverTheOthers(t *testing.T) {
	d := dice(53)
	for _, day := range sampleDays()[:60] {
		b := dayBatch(&d, day, 12)
		for range 4 {
			some := shuffled(&d, b)[:1+d.roll(12)]
			r, _ := impl.RunDay(day, some)
			checkFates(t, day, some, r)
			checkNoneLost(t, day, some, r)
		}
	}
}

// All orders of a few letters have the same round, but for letters with the same code.
func TestDayWhateverTheOrder(t *testing.T) {
	day := exampleDay()
	for _, b := range permutations(batch("1:1200102 2:1200104 3:1200101 4:1200103 5:1200106 6:1200107")) {
		checkDay(t, day, b, reportByHand(day, b))
	}
}

func TestFormatReport(t *testing.T) {
	for _, r := range []impl.Report{
		{}, {Round: []impl.Letter{}, Strange: []impl.Letter{}, Held: []impl.Letter{}, Stuck: []impl.Letter{}},
		{Round: manyLetters(60)}, {Strange: manyLetters(60)}, {Held: manyLetters(60)}, {Stuck: manyLetters(60)},
		{Round: manyLetters(60)[:15], Strange: manyLetters(60)[15:30], Held: manyLetters(60)[30:45], Stuck: manyLetters(60)[45:]},
		{Round: batch("4:1200102 3:1200101"), Stuck: batch("9999:0000000")},
		{Strange: batch("4:1200102 3:1200101 5:1200101"), Held: batch("1:9999999 2:0000000")},
	} {
		if got := impl.FormatReport(r); got != writeReport(r) {
			t.Errorf("FormatReport(%v) = %q", r, got)
		}
	}
	if got := impl.FormatReport(impl.Report{Round: batch("1:1200101"), Strange: batch("2:1200102"), Held: batch("3:1200103"), Stuck: batch("4:1200104 5:1200105")}); got != "1:1200101/2:1200102/3:1200103/4:1200104 5:1200105" {
		t.Errorf("FormatReport = %q", got)
	}
}

// reportsWith has reports that have letters in each part, and others besides in another one.
func reportsWith(b []impl.Letter, others []impl.Letter) []impl.Report {
	return []impl.Report{
		{Round: b, Strange: others}, {Round: b, Held: others}, {Round: b, Stuck: others}, {Strange: b, Round: others},
		{Strange: b, Stuck: others}, {Held: b, Strange: others}, {Held: b, Stuck: others}, {Stuck: b, Round: others},
	}
}

func TestFormatReportInvalid(t *testing.T) {
	var list []impl.Report
	for _, b := range invalidBatches() {
		list = append(list, reportsWith(b, nil)...)
		list = append(list, reportsWith(b, batch("7777:1200107"))...)
	}
	// Each part is a batch, but all of them together are none.
	list = append(list, reportsWith(batch("1:1200107 2:1200107"), batch("3:1200107 2:1200108"))...)
	list = append(list, reportsWith(manyLetters(60), batch("61:1200107"))...)
	list = append(list, reportsWith(manyLetters(60), manyLetters(60))...)
	for _, r := range list {
		if got := impl.FormatReport(r); got != "" {
			t.Errorf("FormatReport(%v) = %q", r, got)
		}
		for _, b := range [][]impl.Letter{nil, r.Round, r.Strange, batch("1:1200107 2:1200107")} {
			if impl.CheckReport(exampleDay(), b, r) {
				t.Errorf("CheckReport(%v, %v) is true", b, r)
			}
		}
	}
}

func TestCheckReport(t *testing.T) {
	day := exampleDay()
	b := batch("1:1200102 2:1200104 3:1200101 4:1200103 5:1200106 6:1200107 7:1200109 8:1200106")
	good := reportByHand(day, b)
	if !impl.CheckReport(day, b, good) || !impl.CheckReport(day, nil, impl.Report{}) || !impl.CheckReport(day, nil, impl.Report{Held: []impl.Letter{}}) {
		t.Error("CheckReport of a good report is false")
	}
	for what, r := range map[string]impl.Report{
		"no letters":                   {},
		"the own code of a letter":     {Round: batch("4:1200103 2:1200104 3:1200101 1:1200102"), Strange: good.Strange, Held: good.Held, Stuck: good.Stuck},
		"letters of one code turned":   {Round: batch("4:1200103 3:1200101 2:1200101 1:1200102"), Strange: good.Strange, Held: good.Held, Stuck: good.Stuck},
		"held letters turned":          {Round: good.Round, Strange: good.Strange, Held: batch("8:1200106 5:1200106"), Stuck: good.Stuck},
		"a letter lost":                {Round: good.Round, Strange: good.Strange, Held: good.Held[:1], Stuck: good.Stuck},
		"a stuck letter lost":          {Round: good.Round, Strange: good.Strange, Held: good.Held},
		"a letter more":                {Round: good.Round, Strange: append(batch("9:1200108"), good.Strange...), Held: good.Held, Stuck: good.Stuck},
		"held and strange exchanged":   {Round: good.Round, Strange: good.Held, Held: good.Strange, Stuck: good.Stuck},
		"strange and stuck exchanged":  {Round: good.Round, Strange: good.Stuck, Held: good.Held, Stuck: good.Strange},
		"a letter in two parts":        {Round: good.Round, Strange: good.Strange, Held: good.Held, Stuck: append(batch("7:1200109"), good.Stuck...)},
		"letters in the order of Ids":  {Round: batch("1:1200102 2:1200101 3:1200101 4:1200103"), Strange: good.Strange, Held: good.Held, Stuck: good.Stuck},
		"another Id for a held letter": {Round: good.Round, Strange: good.Strange, Held: batch("9:1200106 8:1200106"), Stuck: good.Stuck},
	} {
		if impl.CheckReport(day, b, r) {
			t.Errorf("CheckReport is true for a report with %s", what)
		}
	}
	other := exampleDay()
	other.Held = nil
	if impl.CheckReport(other, b, good) || impl.CheckReport(day, b[1:], good) || impl.CheckReport(day, nil, good) {
		t.Error("CheckReport is true for another day or other letters")
	}
	// Trays have no part in a report.
	other = exampleDay()
	other.Size = 20
	if !impl.CheckReport(other, b, good) {
		t.Error("CheckReport is false for another size")
	}
}

func TestDayTrays(t *testing.T) {
	day := impl.Day{Plan: plan(examplePlan), Forwards: forwards("1200109>1200103"), Held: []string{"1200101"}}
	b := batch("1:1200102 2:1200101 3:1200103 4:1200109 5:2000000 6:1200102")
	for size, want := range map[int]string{1: "3:1200103|4:1200103|1:1200102|6:1200102", 2: "3:1200103 4:1200103|1:1200102 6:1200102", 3: "3:1200103 4:1200103 1:1200102|6:1200102", 4: "3:1200103 4:1200103 1:1200102 6:1200102", 20: "3:1200103 4:1200103 1:1200102 6:1200102"} {
		day.Size = size
		x, ok := impl.DayTrays(day, b)
		checkTrays(t, fmt.Sprintf("DayTrays of the size %d", size), x, ok, trays(want))
		x, ok = impl.DayTrays(day, nil)
		checkTrays(t, "DayTrays without letters", x, ok, nil)
		x, ok = impl.DayTrays(day, batch("5:2000000 2:1200101"))
		checkTrays(t, "DayTrays without a round", x, ok, nil)
	}
	day = impl.Day{Plan: plan("2 1 1200107"), Size: 1}
	x, ok := impl.DayTrays(day, manyLetters(60))
	checkTrays(t, "DayTrays", x, ok, fillByHand(manyLetters(60), 1, 0))
}

// The results are spoiled, so that memory that they share with an argument or with each other shows.
func TestDaysShareNoMemory(t *testing.T) {
	d := dice(54)
	for _, day := range sampleDays()[:40] {
		order, checkOrder := guarded(t, day.Plan.Order)
		orders, checkOrders := guarded(t, day.Forwards)
		held, checkHeldCodes := guarded(t, day.Held)
		day.Plan.Order, day.Forwards, day.Held = order, orders, held
		b, checkB := guarded(t, dayBatch(&d, day, 40))
		check := func(what string) {
			t.Helper()
			checkOrder(what)
			checkOrders(what)
			checkHeldCodes(what)
			checkB(what)
		}
		r, _ := impl.RunDay(day, b)
		check("RunDay")
		text := writeReport(r)
		if !impl.CheckReport(day, b, r) || impl.FormatReport(r) != text || writeReport(r) != text {
			t.Errorf("CheckReport and FormatReport of %v", r)
		}
		check("CheckReport")
		spoilBins(t, "RunDay", [][]impl.Letter{r.Round, r.Strange, r.Held}, r.Stuck)
		check("RunDay, spoiled")
		x, _ := impl.DayTrays(day, b)
		spoilBins(t, "DayTrays", x, nil)
		impl.DayValid(day)
		impl.FateOf(day, b[0].Code)
		check("DayTrays, spoiled")
	}
}

// Neither the number of processors nor other days at the same time show in a report.
func TestDaysAtTheSameTime(t *testing.T) {
	d := dice(55)
	days := sampleDays()[:30]
	var group sync.WaitGroup
	for _, day := range days {
		b := dayBatch(&d, day, 60)
		want := writeReport(reportByHand(day, b))
		for range 8 {
			group.Add(1)
			go func() {
				defer group.Done()
				if r, ok := impl.RunDay(day, b); writeReport(r) != want || !ok {
					t.Errorf("RunDay(%v, %v) = %v, %v, not %s", day, b, r, ok, want)
				}
			}()
		}
	}
	group.Wait()
}

// The stages of a day end with it, whether there are letters or not.
func TestStagesEnd(t *testing.T) {
	before := runtime.NumGoroutine()
	for range 50 {
		for _, b := range [][]impl.Letter{nil, manyLetters(60), manyLetters(61), batch("1:1200107 2:1200106")} {
			impl.RunDay(exampleDay(), b)
			impl.RunDay(impl.Day{}, b)
			impl.CheckReport(exampleDay(), b, impl.Report{})
			impl.DayTrays(exampleDay(), b)
		}
		impl.FateOf(exampleDay(), "1200107")
		impl.FateOf(exampleDay(), "x")
		impl.RunScript("letters 1:0000000\nday\ntrays\nfate 0000000")
	}
	// A stage that has closed its channel may take a moment to end.
	for range 200 {
		if runtime.NumGoroutine() <= before {
			return
		}
		time.Sleep(10 * time.Millisecond)
	}
	t.Errorf("%d goroutines before, %d behind", before, runtime.NumGoroutine())
}

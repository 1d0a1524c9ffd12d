package tests

import (
	"fmt"
	"slices"
	"strings"
	"testing"

	"loop.example/sortingoffice/impl"
)

// exampleForwards are the orders of the document's example.
const exampleForwards = "1200101>1200102 1200102>1200103 1200104>1200104"

// forwards reads the text of orders without the functions that are tested.
func forwards(text string) []impl.Forward {
	var list []impl.Forward
	for _, field := range strings.Fields(text) {
		from, to, _ := strings.Cut(field, ">")
		list = append(list, impl.Forward{From: from, To: to})
	}
	return list
}

// chain returns as many orders, each of which leads to the next one, with the codes from first on.
func chain(first int, count int) []impl.Forward {
	var list []impl.Forward
	for i := range count {
		list = append(list, impl.Forward{From: fmt.Sprintf("%07d", first+i), To: fmt.Sprintf("%07d", first+i+1)})
	}
	return list
}

// ring returns a chain of orders of which the last one leads back to the first one.
func ring(first int, count int) []impl.Forward {
	list := chain(first, count)
	list[count-1].To = list[0].From
	return list
}

// star returns orders that all lead to the same code.
func star(first int, count int, to string) []impl.Forward {
	list := chain(first, count)
	for i := range list {
		list[i].To = to
	}
	return list
}

// shuffled returns a list in another order.
func shuffled[T any](d *dice, list []T) []T {
	var mixed []T
	for i, x := range list {
		mixed = slices.Insert(mixed, d.roll(i+1), x)
	}
	return mixed
}

// someForwards returns orders between so few codes that chains and circles are frequent.
func someForwards(d *dice, count int) []impl.Forward {
	list := chain(1200100, count)
	for i := range list {
		list[i].To = fmt.Sprintf("%07d", 1200100+d.roll(count+3))
	}
	return shuffled(d, list)
}

// sampleForwards has orders of all numbers from none to the greatest, in chains, circles and both.
func sampleForwards() [][]impl.Forward {
	d := dice(7)
	list := [][]impl.Forward{nil, {}, forwards(exampleForwards), forwards("0000000>9999999"), star(5, 30, "0000000"), star(5, 30, "0000007")}
	for count := 1; count <= 30; count++ {
		list = append(list, chain(1200100, count), slices.Concat(chain(3, count/2), ring(3+count/2, count-count/2)))
		list = append(list, shuffled(&d, chain(8, count)), shuffled(&d, ring(8, count)))
		for range 4 {
			list = append(list, someForwards(&d, count))
		}
	}
	return list
}

// notCodes has strings that are no codes.
func notCodes() []string {
	return []string{"", "x", "-", "120010", "12001070", "120010x", "120-107", "-200107", "+200107", "1200107 ", " 120010", "12001\xff7", "120010\u0667", "120010\n"}
}

// invalidForwards has orders that are not valid, for each condition.
func invalidForwards() [][]impl.Forward {
	list := [][]impl.Forward{
		make([]impl.Forward, 1), make([]impl.Forward, 31), chain(1, 31), ring(1, 31), star(1, 31, "1200107"), chain(1, 1000),
		forwards("1200101>1200102 1200101>1200102"), forwards("1200101>1200102 1200101>1200103"), forwards("1200101>1200101 1200101>1200101"),
		forwards("1200101>1200102 1200103>1200104 1200101>1200103"), append(chain(1, 29), chain(1, 1)...),
	}
	good := forwards("1200108>1200109")
	for _, c := range notCodes() {
		for _, f := range []impl.Forward{{From: c, To: "1200103"}, {From: "1200103", To: c}, {From: c, To: c}} {
			bad := []impl.Forward{f}
			list = append(list, bad, slices.Concat(good, bad), slices.Concat(bad, good))
		}
	}
	return list
}

// arriveByHand follows orders one by one: who follows more of them than there are comes to one a second time.
func arriveByHand(list []impl.Forward, c string) (string, int, bool) {
	for count := range len(list) + 1 {
		i := slices.IndexFunc(list, func(f impl.Forward) bool { return f.From == c })
		if i < 0 {
			return c, count, true
		}
		c = list[i].To
	}
	return "", 0, false
}

// codesIn returns all codes of orders, and one that is in none, in ascending order.
func codesIn(lists ...[]impl.Forward) []string {
	codes := []string{"7777777"}
	for _, f := range slices.Concat(lists...) {
		codes = append(codes, f.From, f.To)
	}
	slices.Sort(codes)
	return slices.Compact(codes)
}

// endlessByHand returns the codes of which letters never arrive, in ascending order.
func endlessByHand(list []impl.Forward) []string {
	return slices.DeleteFunc(codesIn(list), func(c string) bool {
		_, _, ok := arriveByHand(list, c)
		return ok
	})
}

func checkForwards(t *testing.T, what string, got []impl.Forward, want []impl.Forward) {
	t.Helper()
	if !slices.Equal(got, want) {
		t.Errorf("%s = %v, not %v", what, got, want)
	}
}

func checkCodes(t *testing.T, what string, got []string, want []string) {
	t.Helper()
	if !slices.Equal(got, want) {
		t.Errorf("%s = %q, not %q", what, got, want)
	}
}

// checkAdded checks a result of AddForward; want is the text of the orders, or empty if there are none and false.
func checkAdded(t *testing.T, list []impl.Forward, from string, to string, want string) {
	t.Helper()
	got, ok := impl.AddForward(list, from, to)
	if !slices.Equal(got, forwards(want)) || ok != (want != "") {
		t.Errorf("AddForward(%v, %q, %q) = %v, %v, not %q", list, from, to, got, ok, want)
	}
}

func checkNotRemoved(t *testing.T, list []impl.Forward, from string) {
	t.Helper()
	if x, ok := impl.RemoveForward(list, from); len(x) != 0 || ok {
		t.Errorf("RemoveForward(%v, %q) = %v, %v", list, from, x, ok)
	}
}

func checkNotResolved(t *testing.T, list []impl.Forward, c string) {
	t.Helper()
	if end, count, ok := impl.ResolveCode(list, c); end != "" || count != 0 || ok {
		t.Errorf("ResolveCode(%v, %q) = %q, %d, %v", list, c, end, count, ok)
	}
}

func checkNoNext(t *testing.T, list []impl.Forward, c string) {
	t.Helper()
	if next, ok := impl.NextCode(list, c); next != "" || ok {
		t.Errorf("NextCode(%v, %q) = %q, %v", list, c, next, ok)
	}
}

func checkNotForwarded(t *testing.T, list []impl.Forward, b []impl.Letter) {
	t.Helper()
	if sent, stuck, ok := impl.ForwardBatch(list, b); len(sent) != 0 || len(stuck) != 0 || ok {
		t.Errorf("ForwardBatch(%v, %v) = %v, %v, %v", list, b, sent, stuck, ok)
	}
}

func checkHeld(t *testing.T, b []impl.Letter, held []string, free string, kept string) {
	t.Helper()
	gotFree, gotKept, ok := impl.HoldBatch(b, held)
	what := fmt.Sprintf("HoldBatch(%v, %q)", b, held)
	checkLetters(t, what, gotFree, batch(free))
	checkLetters(t, what+", held", gotKept, batch(kept))
	if !ok {
		t.Errorf("%s is false", what)
	}
}

func checkNotHeld(t *testing.T, b []impl.Letter, held []string) {
	t.Helper()
	if free, kept, ok := impl.HoldBatch(b, held); len(free) != 0 || len(kept) != 0 || ok {
		t.Errorf("HoldBatch(%v, %q) = %v, %v, %v", b, held, free, kept, ok)
	}
}

func TestLimitOfForwards(t *testing.T) {
	if impl.MaxForwards != 30 {
		t.Error("limit", impl.MaxForwards)
	}
}

func TestForwardsValid(t *testing.T) {
	for _, list := range sampleForwards() {
		if !impl.ForwardsValid(list) {
			t.Errorf("ForwardsValid(%v) is false", list)
		}
	}
	for _, list := range invalidForwards() {
		if impl.ForwardsValid(list) {
			t.Errorf("ForwardsValid(%v) is true", list)
		}
	}
}

// Each function of the chapter has a result of its own for orders that are not valid.
func TestInvalidForwards(t *testing.T) {
	good := forwards("0000000>1111111")
	for _, list := range invalidForwards() {
		if s := impl.FormatForwards(list); s != "" {
			t.Errorf("FormatForwards(%v) = %q", list, s)
		}
		for _, c := range []string{"1200101", "1200103", "0000001", "7777777", "", list[0].From, list[0].To, list[len(list)-1].To} {
			checkNoNext(t, list, c)
			checkNotResolved(t, list, c)
			checkCodes(t, fmt.Sprintf("SourcesOf(%v, %q)", list, c), impl.SourcesOf(list, c), nil)
			checkNotRemoved(t, list, c)
			checkAdded(t, list, c, "7777777", "")
			checkAdded(t, list, "7777777", c, "")
		}
		checkCodes(t, fmt.Sprintf("EndlessCodes(%v)", list), impl.EndlessCodes(list), nil)
		checkForwards(t, fmt.Sprintf("DirectForwards(%v)", list), impl.DirectForwards(list), nil)
		if n := impl.LongestChain(list); n != -1 {
			t.Errorf("LongestChain(%v) = %d", list, n)
		}
		for _, b := range [][]impl.Letter{nil, batch("1:1200103"), batch("1:7777777")} {
			checkNotForwarded(t, list, b)
		}
		if impl.SameForwards(list, list) || impl.SameForwards(list, good) || impl.SameForwards(good, list) || impl.SameForwards(nil, list) || impl.SameForwards(list, nil) {
			t.Errorf("SameForwards of %v is true", list)
		}
	}
}

func TestFormatForwards(t *testing.T) {
	for _, list := range sampleForwards() {
		var fields []string
		for _, f := range list {
			fields = append(fields, fmt.Sprintf("%s>%s", f.From, f.To))
		}
		text := strings.Join(fields, " ")
		if len(list) == 0 {
			text = "-"
		}
		if got := impl.FormatForwards(list); got != text {
			t.Errorf("FormatForwards(%v) = %q, not %q", list, got, text)
		}
		got, ok := impl.ParseForwards(text)
		checkForwards(t, "ParseForwards of "+text, got, list)
		if !ok {
			t.Errorf("ParseForwards(%q) is false", text)
		}
	}
}

func TestParseForwardsInvalid(t *testing.T) {
	long := impl.FormatForwards(chain(1, 30))
	texts := []string{
		"", " ", "- ", " -", "--", "- -", ">", "> >", "->-", "1200101", "1200101>", ">1200101", "1200101 1200102", "1200101>1200102>", ">1200101>1200102",
		"1200101>1200102>1200103", "1200101>>1200102", "1200101> 1200102", "1200101 >1200102", "1200101 > 1200102", "1200101<1200102", "1200101:1200102",
		" 1200101>1200102", "1200101>1200102 ", "1200101>1200102  1200103>1200104", "1200101>1200102\n", "1200101>1200102\n1200103>1200104",
		"1200101>1200102\t1200103>1200104", "1200101>1200102,1200103>1200104", "1200101>12001021200103>1200104", "1200101>1200102 -", "- 1200101>1200102",
		"1200101>1200102 1200101>1200103", "1200101>1200102 1200101>1200102", "1200101>1200101 1200102>1200103 1200101>1200102",
		"12001010>1200102", "120010>1200102", "1200101>120010", "1200101>12001020", "120010x>1200102", "1200101>120010x", "-200101>1200102", "1200101>12001\xff2",
		long + " 0000031>0000032", long + " ", long + long, strings.Repeat("1200101>1200102 ", 10000), strings.Repeat(" ", 100000), strings.Repeat(">", 100000),
	}
	for _, text := range texts {
		if list, ok := impl.ParseForwards(text); len(list) != 0 || ok {
			t.Errorf("ParseForwards(%q) = %v, %v", text, list, ok)
		}
	}
}

func TestNextCode(t *testing.T) {
	for _, list := range sampleForwards() {
		for _, f := range list {
			if next, ok := impl.NextCode(list, f.From); next != f.To || !ok {
				t.Errorf("NextCode(%v, %q) = %q, %v", list, f.From, next, ok)
			}
		}
		for _, c := range codesIn(list) {
			if !slices.ContainsFunc(list, func(f impl.Forward) bool { return f.From == c }) {
				checkNoNext(t, list, c)
			}
		}
		for _, c := range notCodes() {
			checkNoNext(t, list, c)
		}
	}
}

// Promise 4: orders are followed to their end.
func TestResolveCode(t *testing.T) {
	for _, list := range sampleForwards() {
		for _, c := range codesIn(list) {
			want, wantCount, wantOk := arriveByHand(list, c)
			if end, count, ok := impl.ResolveCode(list, c); end != want || count != wantCount || ok != wantOk {
				t.Errorf("ResolveCode(%v, %q) = %q, %d, %v, not %q, %d, %v", list, c, end, count, ok, want, wantCount, wantOk)
			}
		}
		for _, c := range notCodes() {
			checkNotResolved(t, list, c)
		}
	}
}

func TestExampleOfForwards(t *testing.T) {
	list := forwards(exampleForwards)
	for c, want := range map[string]string{
		"1200101": "1200103 2 true", "1200102": "1200103 1 true", "1200103": "1200103 0 true", "1200104": " 0 false", "1200105": "1200105 0 true",
	} {
		end, count, ok := impl.ResolveCode(list, c)
		if got := fmt.Sprint(end, " ", count, " ", ok); got != want {
			t.Errorf("ResolveCode of %s = %s, not %s", c, got, want)
		}
	}
	checkCodes(t, "EndlessCodes", impl.EndlessCodes(list), []string{"1200104"})
	checkForwards(t, "DirectForwards", impl.DirectForwards(list), forwards("1200101>1200103 1200102>1200103"))
	if n := impl.LongestChain(list); n != 2 {
		t.Errorf("LongestChain = %d", n)
	}
}

// Letters that run into a circle never arrive, whatever the lengths of the circle and of the way to it are.
func TestCircles(t *testing.T) {
	d := dice(8)
	for size := 1; size <= 30; size++ {
		for way := 0; size+way <= 30; way++ {
			list := shuffled(&d, slices.Concat(chain(500, way), ring(500+way, size)))
			var all []string
			for i := range size + way {
				all = append(all, fmt.Sprintf("%07d", 500+i))
			}
			for _, c := range all {
				checkNotResolved(t, list, c)
				checkCodes(t, fmt.Sprintf("SourcesOf(%v, %q)", list, c), impl.SourcesOf(list, c), nil)
			}
			checkCodes(t, fmt.Sprintf("EndlessCodes(%v)", list), impl.EndlessCodes(list), all)
			checkForwards(t, fmt.Sprintf("DirectForwards(%v)", list), impl.DirectForwards(list), nil)
			if n := impl.LongestChain(list); n != 0 {
				t.Errorf("LongestChain(%v) = %d", list, n)
			}
		}
	}
}

func TestEndlessCodes(t *testing.T) {
	for _, list := range sampleForwards() {
		checkCodes(t, fmt.Sprintf("EndlessCodes(%v)", list), impl.EndlessCodes(list), endlessByHand(list))
	}
	list := forwards("9000000>8000000 2000000>2000000 8000000>9000000 1000000>7000000 3000000>8000000")
	checkCodes(t, "EndlessCodes", impl.EndlessCodes(list), []string{"2000000", "3000000", "8000000", "9000000"})
}

func TestLongestChain(t *testing.T) {
	for _, list := range sampleForwards() {
		longest := 0
		for _, c := range codesIn(list) {
			_, count, _ := arriveByHand(list, c)
			longest = max(longest, count)
		}
		if got := impl.LongestChain(list); got != longest {
			t.Errorf("LongestChain(%v) = %d, not %d", list, got, longest)
		}
	}
	for count := range 31 {
		if got := impl.LongestChain(chain(1, count)); got != count {
			t.Errorf("LongestChain of %d orders = %d", count, got)
		}
	}
	if got := impl.LongestChain(slices.Concat(ring(1, 9), chain(20, 3), star(30, 9, "0000020"))); got != 4 {
		t.Errorf("LongestChain beside a circle = %d", got)
	}
}

func TestDirectForwards(t *testing.T) {
	for _, list := range sampleForwards() {
		var want []impl.Forward
		for _, c := range codesIn(list) {
			if end, count, ok := arriveByHand(list, c); ok && count > 0 {
				want = append(want, impl.Forward{From: c, To: end})
			}
		}
		direct := impl.DirectForwards(list)
		checkForwards(t, fmt.Sprintf("DirectForwards(%v)", list), direct, want)
		if !impl.ForwardsValid(direct) || impl.LongestChain(direct) > 1 || len(impl.EndlessCodes(direct)) != 0 {
			t.Errorf("DirectForwards(%v) = %v are not direct", list, direct)
		}
	}
}

func TestSourcesOf(t *testing.T) {
	for _, list := range sampleForwards() {
		for _, c := range codesIn(list) {
			want := slices.DeleteFunc(codesIn(list), func(from string) bool {
				end, count, ok := arriveByHand(list, from)
				return !ok || count == 0 || end != c
			})
			checkCodes(t, fmt.Sprintf("SourcesOf(%v, %q)", list, c), impl.SourcesOf(list, c), want)
		}
		for _, c := range notCodes() {
			checkCodes(t, fmt.Sprintf("SourcesOf(%v, %q)", list, c), impl.SourcesOf(list, c), nil)
		}
	}
	list := forwards("9000000>5000000 2000000>2000000 5000000>4000000 1000000>5000000 4000001>4000000")
	checkCodes(t, "SourcesOf", impl.SourcesOf(list, "4000000"), []string{"1000000", "4000001", "5000000", "9000000"})
	checkCodes(t, "SourcesOf a code with an order", impl.SourcesOf(list, "5000000"), nil)
	checkCodes(t, "SourcesOf a code that leads to itself", impl.SourcesOf(list, "2000000"), nil)
}

func TestAddForward(t *testing.T) {
	list := forwards(exampleForwards)
	checkAdded(t, nil, "1200101", "1200102", "1200101>1200102")
	checkAdded(t, list, "1200105", "1200101", exampleForwards+" 1200105>1200101")
	checkAdded(t, list, "1200105", "1200106", exampleForwards+" 1200105>1200106")
	checkAdded(t, list, "1200101", "1200109", "1200102>1200103 1200104>1200104 1200101>1200109")
	checkAdded(t, list, "1200101", "1200102", "1200102>1200103 1200104>1200104 1200101>1200102")
	// A circle ends with the order for one of its codes.
	checkAdded(t, list, "1200104", "1200101", "1200101>1200102 1200102>1200103 1200104>1200101")
	checkAdded(t, forwards("1200101>1200102 1200102>1200101"), "1200101", "1200103", "1200102>1200101 1200101>1200103")
	// Other circles may stay, if the letters for from do not come into them.
	checkAdded(t, forwards("1200101>1200102 1200102>1200101"), "1200103", "1200104", "1200101>1200102 1200102>1200101 1200103>1200104")
}

func TestAddForwardRefused(t *testing.T) {
	list := forwards(exampleForwards)
	for _, f := range forwards("1200101>1200101 1200109>1200109 1200104>1200104 1200102>1200101 1200103>1200101 1200103>1200102 1200103>1200104 1200105>1200104") {
		checkAdded(t, list, f.From, f.To, "")
	}
	checkAdded(t, nil, "1200101", "1200101", "")
	for _, c := range notCodes() {
		for _, some := range [][]impl.Forward{nil, list} {
			checkAdded(t, some, c, "1200109", "")
			checkAdded(t, some, "1200109", c, "")
			checkAdded(t, some, "1200101", c, "")
			checkAdded(t, some, c, c, "")
		}
	}
}

// The limit counts the orders of the result, in which the new order takes the place of the old one.
func TestAddForwardToMany(t *testing.T) {
	full := star(1, 30, "1200107")
	checkAdded(t, full, "0000031", "1200107", "")
	checkAdded(t, full, "1200107", "1200108", "")
	for i, f := range full {
		others := slices.Concat(full[:i], full[i+1:])
		checkAdded(t, full, f.From, "1200108", impl.FormatForwards(append(others, impl.Forward{From: f.From, To: "1200108"})))
	}
	checkAdded(t, full[1:], "0000001", "1200107", impl.FormatForwards(append(full[1:30:30], full[0])))
}

// Promise 4: adding an order never makes letters go round for ever that did not before, and it is refused for no other reason.
func TestAddForwardNeverEndless(t *testing.T) {
	for _, list := range sampleForwards() {
		if len(list) > 12 && len(list) < 29 {
			continue
		}
		before := endlessByHand(list)
		for _, f := range pairsOf(codesIn(list)) {
			want := slices.DeleteFunc(slices.Clone(list), func(g impl.Forward) bool { return g.From == f.From })
			want = append(want, f)
			_, _, arrives := arriveByHand(want, f.From)
			added, ok := impl.AddForward(list, f.From, f.To)
			if ok != (arrives && len(want) <= 30) {
				t.Errorf("AddForward(%v, %v) = %v, %v", list, f, added, ok)
			}
			if !ok {
				want = nil
			}
			checkForwards(t, fmt.Sprintf("AddForward(%v, %v)", list, f), added, want)
			for _, c := range impl.EndlessCodes(added) {
				if !slices.Contains(before, c) {
					t.Errorf("AddForward(%v, %v) makes letters for %s go round for ever", list, f, c)
				}
			}
		}
	}
}

// pairsOf returns an order from each code to each one.
func pairsOf(codes []string) []impl.Forward {
	var pairs []impl.Forward
	for _, from := range codes {
		for _, to := range codes {
			pairs = append(pairs, impl.Forward{From: from, To: to})
		}
	}
	return pairs
}

// Promise 4: if all orders are added one by one, all letters arrive.
func TestForwardsAddedOneByOne(t *testing.T) {
	d := dice(9)
	var list []impl.Forward
	refused := 0
	for range 2000 {
		from, to := fmt.Sprintf("12001%02d", d.roll(25)), fmt.Sprintf("12001%02d", d.roll(25))
		if added, ok := impl.AddForward(list, from, to); ok {
			list = added
		} else {
			refused++
		}
		if d.roll(9) == 0 {
			if fewer, ok := impl.RemoveForward(list, from); ok {
				list = fewer
			}
		}
		if endless := endlessByHand(list); len(endless) != 0 {
			t.Fatalf("by %v letters for %v never arrive", list, endless)
		}
	}
	if refused < 100 || len(list) < 10 {
		t.Errorf("%d orders are refused, and %d are there at the end", refused, len(list))
	}
}

func TestRemoveForward(t *testing.T) {
	for _, list := range sampleForwards() {
		for i, f := range list {
			got, ok := impl.RemoveForward(list, f.From)
			checkForwards(t, fmt.Sprintf("RemoveForward(%v, %q)", list, f.From), got, slices.Concat(list[:i], list[i+1:]))
			if !ok {
				t.Errorf("RemoveForward(%v, %q) is false", list, f.From)
			}
		}
		for _, c := range append(notCodes(), "7777777") {
			checkNotRemoved(t, list, c)
		}
	}
	checkNotRemoved(t, forwards(exampleForwards), "1200103")
}

func TestForwardBatch(t *testing.T) {
	list := forwards(exampleForwards + " 1200105>1200104")
	b := batch("4:1200102 1:1200101 9:1200104 2:1200107 5:1200105 3:1200103 8:1200101 7:1200104")
	sent, stuck, ok := impl.ForwardBatch(list, b)
	checkLetters(t, "ForwardBatch", sent, batch("4:1200103 1:1200103 2:1200107 3:1200103 8:1200103"))
	checkLetters(t, "ForwardBatch, never", stuck, batch("9:1200104 5:1200105 7:1200104"))
	if !ok {
		t.Error("ForwardBatch is false")
	}
	for _, list := range sampleForwards() {
		for _, b := range invalidBatches() {
			checkNotForwarded(t, list, b)
		}
	}
}

// Promise 4, for batches of all sizes: no letter is lost, and none comes to two ends.
func TestForwardManyBatches(t *testing.T) {
	d := dice(10)
	for size, list := range sampleForwards() {
		codes := codesIn(list)
		var b, arrived, never []impl.Letter
		for i := range size % 61 {
			l := impl.Letter{Id: 9999 - i*7%61, Code: codes[d.roll(len(codes))]}
			b = append(b, l)
			if end, _, ok := arriveByHand(list, l.Code); ok {
				arrived = append(arrived, impl.Letter{Id: l.Id, Code: end})
			} else {
				never = append(never, l)
			}
		}
		sent, stuck, ok := impl.ForwardBatch(list, b)
		checkLetters(t, fmt.Sprintf("ForwardBatch(%v, %v)", list, b), sent, arrived)
		checkLetters(t, fmt.Sprintf("ForwardBatch(%v, %v), never", list, b), stuck, never)
		if !ok {
			t.Errorf("ForwardBatch(%v, %v) is false", list, b)
		}
	}
}

func TestHoldBatch(t *testing.T) {
	b := batch("4:1200102 1:1200101 9:1200104 2:1200101 5:1200105")
	checkHeld(t, b, nil, "4:1200102 1:1200101 9:1200104 2:1200101 5:1200105", "")
	checkHeld(t, b, []string{"1200107"}, "4:1200102 1:1200101 9:1200104 2:1200101 5:1200105", "")
	checkHeld(t, b, []string{"1200101"}, "4:1200102 9:1200104 5:1200105", "1:1200101 2:1200101")
	checkHeld(t, b, []string{"1200104", "1200102"}, "1:1200101 2:1200101 5:1200105", "4:1200102 9:1200104")
	checkHeld(t, b, []string{"1200105", "1200104", "1200102", "1200101"}, "", "4:1200102 1:1200101 9:1200104 2:1200101 5:1200105")
	checkHeld(t, nil, []string{"1200101"}, "", "")
	checkHeld(t, nil, nil, "", "")
}

// A code that is held twice holds its letters once, and counts twice for the limit.
func TestHeldTwice(t *testing.T) {
	b := batch("1:1200101 2:1200102 3:1200101")
	checkHeld(t, b, []string{"1200101", "1200101"}, "2:1200102", "1:1200101 3:1200101")
	checkHeld(t, b, []string{"1200101", "1200102", "1200101"}, "", "1:1200101 2:1200102 3:1200101")
	checkHeld(t, b, slices.Repeat([]string{"1200101"}, 30), "2:1200102", "1:1200101 3:1200101")
	checkHeld(t, b, someOrder(30), "1:1200101 2:1200102 3:1200101", "")
	checkHeld(t, b, append(someOrder(29), "1200102"), "1:1200101 3:1200101", "2:1200102")
	for _, held := range [][]string{slices.Repeat([]string{"1200101"}, 31), someOrder(31), append(someOrder(30), "1200101"), append(someOrder(30), someOrder(1)...), make([]string, 100000)} {
		checkNotHeld(t, b, held)
		checkNotHeld(t, nil, held)
	}
}

func TestHoldBatchInvalid(t *testing.T) {
	for _, c := range notCodes() {
		for _, held := range [][]string{{c}, {"1200101", c}, {c, "1200101"}} {
			checkNotHeld(t, batch("1:1200101 2:1200102"), held)
			checkNotHeld(t, nil, held)
		}
	}
	for _, b := range invalidBatches() {
		checkNotHeld(t, b, nil)
		checkNotHeld(t, b, []string{"1200107"})
	}
}

func TestSameForwards(t *testing.T) {
	same := [][2]string{
		{"", ""}, {exampleForwards, exampleForwards},
		{exampleForwards, "1200104>1200104 1200102>1200103 1200101>1200103"},
		{"1200101>1200102 1200102>1200101", "1200101>1200101 1200102>1200102"},
		{"1200101>1200102 1200102>1200102", "1200102>1200101 1200101>1200102"},
		{"1200101>1200102 1200102>1200103 1200103>1200104", "1200103>1200104 1200101>1200103 1200102>1200104"},
	}
	different := [][2]string{
		{"", "1200101>1200102"}, {"", "1200101>1200101"}, {exampleForwards, "1200101>1200103 1200102>1200103"},
		{"1200101>1200102", "1200101>1200103"}, {"1200101>1200102", "1200102>1200101"}, {"1200101>1200102", "1200101>1200101"},
		{"1200101>1200102", "1200101>1200102 1200103>1200102"}, {"1200101>1200102", "1200101>1200102 1200102>1200103"},
		{"1200101>1200102 1200102>1200101", "1200101>1200101"}, {"1200101>1200102 1200103>1200104", "1200101>1200104 1200103>1200102"},
	}
	for _, c := range same {
		if !impl.SameForwards(forwards(c[0]), forwards(c[1])) || !impl.SameForwards(forwards(c[1]), forwards(c[0])) {
			t.Errorf("SameForwards of %q and %q is false", c[0], c[1])
		}
	}
	for _, c := range different {
		if impl.SameForwards(forwards(c[0]), forwards(c[1])) || impl.SameForwards(forwards(c[1]), forwards(c[0])) {
			t.Errorf("SameForwards of %q and %q is true", c[0], c[1])
		}
	}
}

// Orders between three codes are few enough to compare each list with each one.
func TestSameForwardsOfAll(t *testing.T) {
	codes := []string{"1200103", "1200101", "1200102"}
	lists := [][]impl.Forward{nil}
	for _, from := range codes {
		for _, list := range slices.Clone(lists) {
			for _, to := range codes {
				lists = append(lists, append(slices.Clone(list), impl.Forward{From: from, To: to}))
			}
		}
	}
	for _, a := range lists {
		for _, b := range lists {
			want := !slices.ContainsFunc(codes, func(c string) bool {
				endA, _, _ := arriveByHand(a, c)
				endB, _, _ := arriveByHand(b, c)
				return endA != endB
			})
			if got := impl.SameForwards(a, b); got != want {
				t.Errorf("SameForwards(%v, %v) = %v", a, b, got)
			}
		}
	}
}

// The orders to the ends send all letters where the orders send them, if all letters arrive.
func TestDirectForwardsAreTheSame(t *testing.T) {
	d := dice(11)
	for _, list := range sampleForwards() {
		if got := impl.SameForwards(list, impl.DirectForwards(list)); got != (len(endlessByHand(list)) == 0) {
			t.Errorf("SameForwards of %v and its DirectForwards is %v", list, got)
		}
		if mixed := shuffled(&d, list); !impl.SameForwards(list, mixed) {
			t.Errorf("SameForwards(%v, %v) is false", list, mixed)
		}
	}
}

// The results are spoiled, so that memory that they share with an argument shows.
func TestForwardsShareNoMemory(t *testing.T) {
	for _, text := range []string{exampleForwards, "1200103>1200101 1200101>1200102 1200104>1200105", "1200101>1200101"} {
		list, check := guarded(t, forwards(text))
		for what, change := range map[string]func() []impl.Forward{
			"AddForward, new":       func() []impl.Forward { return first(impl.AddForward(list, "1200108", "1200109")) },
			"AddForward, in place":  func() []impl.Forward { return first(impl.AddForward(list, "1200101", "1200109")) },
			"AddForward, refused":   func() []impl.Forward { return first(impl.AddForward(list, "1200101", "1200101")) },
			"RemoveForward":         func() []impl.Forward { return first(impl.RemoveForward(list, "1200101")) },
			"RemoveForward, at end": func() []impl.Forward { return first(impl.RemoveForward(list, list[len(list)-1].From)) },
			"DirectForwards":        func() []impl.Forward { return impl.DirectForwards(list) },
		} {
			x := change()
			check(what)
			spoil(x)
			check(what + ", spoiled")
		}
		spoil(impl.EndlessCodes(list))
		spoil(impl.SourcesOf(list, "1200103"))
		impl.SameForwards(list, list[:1])
		impl.SameForwards(list[:1], list)
		impl.LongestChain(list)
		impl.ResolveCode(list, "1200101")
		check("another function")
	}
}

func first(list []impl.Forward, _ bool) []impl.Forward { return list }

// Neither an argument nor the other result changes if a result is spoiled.
func TestForwardedLettersShareNoMemory(t *testing.T) {
	list, checkList := guarded(t, forwards(exampleForwards))
	held, checkHeldCodes := guarded(t, []string{"1200104", "1200101", "1200104"})
	for _, text := range []string{"1:1200101 2:1200104 3:1200107 4:1200101", "1:1200107 2:1200102", "1:1200104", ""} {
		b, check := guarded(t, batch(text))
		for what, divide := range map[string]func() ([]impl.Letter, []impl.Letter, bool){
			"ForwardBatch":                func() ([]impl.Letter, []impl.Letter, bool) { return impl.ForwardBatch(list, b) },
			"ForwardBatch without orders": func() ([]impl.Letter, []impl.Letter, bool) { return impl.ForwardBatch(nil, b) },
			"HoldBatch":                   func() ([]impl.Letter, []impl.Letter, bool) { return impl.HoldBatch(b, held) },
			"HoldBatch without codes":     func() ([]impl.Letter, []impl.Letter, bool) { return impl.HoldBatch(b, nil) },
		} {
			x, y, _ := divide()
			spoil(x)
			if slices.Contains(y, impl.Letter{}) {
				t.Errorf("%s of %q has results with common memory", what, text)
			}
			spoil(y)
			check(what)
			checkList(what)
			checkHeldCodes(what)
		}
	}
}

package tests

import (
	"fmt"
	"slices"
	"strings"
	"testing"

	"loop.example/sortingoffice/impl"
)

// exampleRules are rules of which each of the last four changes nothing beside the first three.
const exampleRules = "12>b >here 1200>c 12001>c 13>here 121>b 1200107>c"

// tenRules are rules that together leave nothing to the rule with the empty prefix.
const tenRules = "0>b 1>b 2>b 3>b 4>b 5>b 6>b 7>b 8>b 9>b"

// rules reads the text of rules without the functions that are tested.
func rules(text string) []impl.Rule {
	var list []impl.Rule
	for _, field := range strings.Fields(text) {
		prefix, next, _ := strings.Cut(field, ">")
		list = append(list, impl.Rule{Prefix: prefix, Next: next})
	}
	return list
}

// writeRules writes any rules, also those that are not valid.
func writeRules(list []impl.Rule) string {
	var fields []string
	for _, r := range list {
		fields = append(fields, r.Prefix+">"+r.Next)
	}
	return strings.Join(fields, " ")
}

// manyRules returns rules with different prefixes of four digits.
func manyRules(count int, next string) []impl.Rule {
	var list []impl.Rule
	for i := range count {
		list = append(list, impl.Rule{Prefix: fmt.Sprintf("%04d", 1195+i), Next: next})
	}
	return list
}

// someRules returns rules with few different digits, so that prefixes often begin with each other.
func someRules(d *dice, count int, names []string) []impl.Rule {
	var list []impl.Rule
	for len(list) < count {
		prefix := ""
		for range d.roll(8) {
			prefix += string("0179"[d.roll(4)/(1+d.roll(2))])
		}
		if indexOfPrefix(list, prefix) < 0 {
			list = append(list, impl.Rule{Prefix: prefix, Next: names[d.roll(len(names))]})
		}
	}
	return list
}

// someSiblings returns the ten rules that continue a prefix by one digit, which mostly have the same Next.
func someSiblings(d *dice, prefix string, names []string) []impl.Rule {
	var list []impl.Rule
	for digit := range 10 {
		next := names[0]
		if d.roll(15) == 0 {
			next = names[d.roll(len(names))]
		}
		list = append(list, impl.Rule{Prefix: prefix + fmt.Sprint(digit), Next: next})
	}
	return shuffled(d, list)
}

func indexOfPrefix(list []impl.Rule, prefix string) int {
	return slices.IndexFunc(list, func(r impl.Rule) bool { return r.Prefix == prefix })
}

// sampleRules has rules of all numbers from none to the greatest.
func sampleRules() [][]impl.Rule {
	d := dice(21)
	names := []string{"b", "here", "c"}
	list := [][]impl.Rule{
		nil, {}, rules(">a"), rules(">here"), rules("0000000>a"), rules("9999999>abcdefgh >z"), rules(exampleRules),
		rules(tenRules), rules(tenRules + " >b"), rules(tenRules + " >c"), rules("1>a 12>a 120>a 1200>a 12001>a 120010>a 1200107>a"),
		manyRules(20, "a"), append(manyRules(19, "here"), rules(">here")...), append(someSiblings(&d, "", names), someSiblings(&d, "120010", names)...),
	}
	for count := range 21 {
		for range 6 {
			list = append(list, someRules(&d, count, names))
		}
	}
	return list
}

// notPrefixes has strings that are no prefixes.
func notPrefixes() []string {
	return []string{"x", "-", "-1", "+1", " ", "1 ", " 1", "12a", "12*", "1200107x", "12001070", "00000000", "12\xff", "1\u0667", "1\n", "1\x00", strings.Repeat("1", 20), strings.Repeat("1", 1000)}
}

// notNames has strings that are no names.
func notNames() []string {
	return []string{"", "B", "aB", "1", "a1", "a b", " a", "a ", "a-", "-", ">", "a>", "a;", "`", "{", "abcdefghi", "\xff", "a\xff", "\u00e9", "a\n", "a\x00", strings.Repeat("a", 1000)}
}

// invalidRules has rules that are not valid, for each condition.
func invalidRules() [][]impl.Rule {
	list := [][]impl.Rule{
		make([]impl.Rule, 1), make([]impl.Rule, 21), manyRules(21, "a"), manyRules(100, "here"), append(manyRules(20, "a"), rules(">a")...),
		rules("12>a 12>b"), rules("12>a 12>a"), rules(">a >b"), rules(">a >a"), rules(">a 12>b 1200107>c 12>b"), append(manyRules(19, "a"), manyRules(1, "b")...),
	}
	good := rules("1200>a")
	var bad []impl.Rule
	for _, prefix := range notPrefixes() {
		bad = append(bad, impl.Rule{Prefix: prefix, Next: "a"})
	}
	for _, name := range notNames() {
		bad = append(bad, impl.Rule{Prefix: "12", Next: name}, impl.Rule{Prefix: "", Next: name})
	}
	for _, r := range bad {
		one := []impl.Rule{r}
		list = append(list, one, slices.Concat(good, one), slices.Concat(one, good))
	}
	return list
}

// lookUpByHand tries all beginnings of a code, from the longest one to the empty one.
func lookUpByHand(list []impl.Rule, c string) (string, bool) {
	for size := len(c); size >= 0; size-- {
		if i := indexOfPrefix(list, c[:size]); i >= 0 {
			return list[i].Next, true
		}
	}
	return "", false
}

// beginningsOf returns, in ascending order, the empty prefix and all prefixes that leave the way to a rule's prefix by one digit, or stay on it.
// All codes that begin with one of them, but with no longer one, are looked up alike.
func beginningsOf(lists ...[]impl.Rule) []string {
	all := map[string]bool{"": true}
	for _, r := range slices.Concat(lists...) {
		for size := range len(r.Prefix) + 1 {
			for digit := '0'; digit <= '9' && size < 7; digit++ {
				all[r.Prefix[:size]+string(digit)] = true
			}
		}
	}
	var prefixes []string
	for prefix := range all {
		prefixes = append(prefixes, prefix)
	}
	slices.Sort(prefixes)
	return prefixes
}

// probesOf returns codes of which two that are not the same are looked up differently by no rules that look up all codes of these alike.
func probesOf(lists ...[]impl.Rule) []string {
	var codes []string
	for _, prefix := range beginningsOf(lists...) {
		codes = append(codes, (prefix + "0000000")[:7], (prefix + "9999999")[:7])
	}
	slices.Sort(codes)
	return slices.Compact(codes)
}

// sameByHand reports whether rules look up all probes alike.
func sameByHand(a []impl.Rule, b []impl.Rule) bool {
	return !slices.ContainsFunc(probesOf(a, b), func(c string) bool {
		nextA, okA := lookUpByHand(a, c)
		nextB, okB := lookUpByHand(b, c)
		return nextA != nextB || okA != okB
	})
}

// shrinkByHand compares each rule with all other ones.
func shrinkByHand(list []impl.Rule) []impl.Rule {
	var kept []impl.Rule
	for i, r := range list {
		longest := impl.Rule{}
		for j, other := range list {
			if i != j && strings.HasPrefix(r.Prefix, other.Prefix) && (longest.Next == "" || len(other.Prefix) > len(longest.Prefix)) {
				longest = other
			}
		}
		if longest.Next != r.Next {
			kept = append(kept, r)
		}
	}
	return kept
}

func checkRules(t *testing.T, what string, got []impl.Rule, want []impl.Rule) {
	t.Helper()
	if !slices.Equal(got, want) {
		t.Errorf("%s = %q, not %q", what, writeRules(got), writeRules(want))
	}
}

func checkNoRules(t *testing.T, what string, got []impl.Rule, ok bool) {
	t.Helper()
	if len(got) != 0 || ok {
		t.Errorf("%s = %q, %v", what, writeRules(got), ok)
	}
}

func checkLookUp(t *testing.T, list []impl.Rule, c string, want string, wantOk bool) {
	t.Helper()
	if next, ok := impl.LookUp(list, c); next != want || ok != wantOk {
		t.Errorf("LookUp(%q, %q) = %q, %v, not %q, %v", writeRules(list), c, next, ok, want, wantOk)
	}
}

func checkSame(t *testing.T, a []impl.Rule, b []impl.Rule, want bool) {
	t.Helper()
	if impl.SameRules(a, b) != want || impl.SameRules(b, a) != want {
		t.Errorf("SameRules(%q, %q) = %v, and turned %v", writeRules(a), writeRules(b), impl.SameRules(a, b), impl.SameRules(b, a))
	}
}

func TestLimitsOfNetworks(t *testing.T) {
	if impl.MaxRules != 20 || impl.MaxOffices != 8 || impl.MaxName != 8 {
		t.Error("limits", impl.MaxRules, impl.MaxOffices, impl.MaxName)
	}
	if impl.RouteHome != 0 || impl.RouteLost != 1 || impl.RouteLoop != 2 || impl.RouteBroken != 3 {
		t.Error("ends", impl.RouteHome, impl.RouteLost, impl.RouteLoop, impl.RouteBroken)
	}
}

func TestRulesValid(t *testing.T) {
	for _, list := range sampleRules() {
		if !impl.RulesValid(list) {
			t.Errorf("RulesValid(%q) is false", writeRules(list))
		}
	}
	for _, list := range invalidRules() {
		if impl.RulesValid(list) {
			t.Errorf("RulesValid(%q) is true", writeRules(list))
		}
	}
}

func TestRulesText(t *testing.T) {
	for _, list := range sampleRules() {
		want := writeRules(list)
		if len(list) == 0 {
			want = "-"
		}
		if got := impl.FormatRules(list); got != want {
			t.Errorf("FormatRules(%q) = %q", want, got)
		}
		parsed, ok := impl.ParseRules(want)
		checkRules(t, fmt.Sprintf("ParseRules(%q)", want), parsed, list)
		if !ok {
			t.Errorf("ParseRules(%q) is false", want)
		}
	}
	for _, list := range invalidRules() {
		if got := impl.FormatRules(list); got != "" {
			t.Errorf("FormatRules(%q) = %q", writeRules(list), got)
		}
		x, ok := impl.ParseRules(writeRules(list))
		checkNoRules(t, fmt.Sprintf("ParseRules(%q)", writeRules(list)), x, ok)
	}
}

func TestParseRulesInvalid(t *testing.T) {
	for _, text := range []string{
		"", " ", "  ", ">", "> ", "12", "a", "12>", "12b", "12>b ", " 12>b", "12>b  13>b", "12>b\n", "12>b\t13>b", "12>b,13>b", "12>b;", "12>b;13>b",
		"12 >b", "12> b", "12>>b", "12>b>", "12>b>c", ">12>b", ">b>c", "b>12", "12<b", "12:b", "-12>b", "--", "- ", " -", "- -", "- 12>b", "12>b -", "->b", "12>-", "\x00", "\xff",
		strings.Repeat("12>b ", 100000), strings.Repeat(" ", 100000), strings.Repeat(">", 100000),
	} {
		x, ok := impl.ParseRules(text)
		checkNoRules(t, fmt.Sprintf("ParseRules(%.30q)", text), x, ok)
	}
}

func TestLookUp(t *testing.T) {
	for _, list := range sampleRules() {
		for _, c := range append(probesOf(list), "1200107", "0000000", "9999999", "7777777") {
			next, ok := lookUpByHand(list, c)
			checkLookUp(t, list, c, next, ok)
		}
	}
	list := rules("12>b 1200107>d >here 1200>c")
	for c, want := range map[string]string{"1200107": "d", "1200106": "c", "1200999": "c", "1201000": "b", "1199999": "here", "1300000": "here", "0120010": "here"} {
		checkLookUp(t, list, c, want, true)
	}
	checkLookUp(t, rules("12>b 1200107>d"), "1100107", "", false)
	checkLookUp(t, rules("1200107>d"), "1200106", "", false)
	checkLookUp(t, nil, "1200107", "", false)
	checkLookUp(t, rules(">here"), "1200107", "here", true)
}

func TestLookUpInvalid(t *testing.T) {
	for _, list := range [][]impl.Rule{nil, rules(">a"), rules(exampleRules), rules(tenRules)} {
		for _, c := range append(notCodes(), notPrefixes()...) {
			checkLookUp(t, list, c, "", false)
		}
	}
	for _, list := range invalidRules() {
		for _, c := range []string{"1200107", "0000000", "1195000", "", "12"} {
			checkLookUp(t, list, c, "", false)
		}
	}
}

func TestAddRule(t *testing.T) {
	for _, c := range []struct{ list, prefix, next, want string }{
		{"", "", "a", ">a"},
		{"", "1200107", "abcdefgh", "1200107>abcdefgh"},
		{"12>b >here 1200>c", "", "b", "12>b >b 1200>c"},
		{"12>b >here 1200>c", "12", "here", "12>here >here 1200>c"},
		{"12>b >here 1200>c", "1200", "c", "12>b >here 1200>c"},
		{"12>b >here 1200>c", "1200", "d", "12>b >here 1200>d"},
		{"12>b >here 1200>c", "120", "c", "12>b >here 1200>c 120>c"},
		{"12>b >here 1200>c", "1", "b", "12>b >here 1200>c 1>b"},
		{"12>b 1200>c", "", "here", "12>b 1200>c >here"},
		{"12>b", "012", "b", "12>b 012>b"},
	} {
		got, ok := impl.AddRule(rules(c.list), c.prefix, c.next)
		what := fmt.Sprintf("AddRule(%q, %q, %q)", c.list, c.prefix, c.next)
		checkRules(t, what, got, rules(c.want))
		if !ok {
			t.Errorf("%s is false", what)
		}
	}
	full := manyRules(20, "a")
	for i := range full {
		want := slices.Clone(full)
		want[i].Next = "here"
		got, ok := impl.AddRule(full, full[i].Prefix, "here")
		checkRules(t, "AddRule of a prefix that is there", got, want)
		if !ok {
			t.Error("AddRule changes no rule of 20")
		}
	}
	got, ok := impl.AddRule(full[:19], full[19].Prefix, "a")
	checkRules(t, "AddRule of the last rule", got, full)
	if !ok {
		t.Error("AddRule adds no rule to 19")
	}
}

func TestAddRuleInvalid(t *testing.T) {
	full := manyRules(20, "a")
	for _, prefix := range []string{"", "0", "1200107", "119"} {
		x, ok := impl.AddRule(full, prefix, "a")
		checkNoRules(t, "AddRule to 20 rules", x, ok)
	}
	for _, list := range [][]impl.Rule{nil, rules("12>b"), rules(exampleRules), full} {
		for _, name := range notNames() {
			for _, prefix := range []string{"", "12", "9", full[0].Prefix} {
				x, ok := impl.AddRule(list, prefix, name)
				checkNoRules(t, fmt.Sprintf("AddRule(%q, %q, %q)", writeRules(list), prefix, name), x, ok)
			}
		}
		for _, prefix := range notPrefixes() {
			x, ok := impl.AddRule(list, prefix, "b")
			checkNoRules(t, fmt.Sprintf("AddRule(%q, %q, \"b\")", writeRules(list), prefix), x, ok)
		}
	}
	// Rules that are not valid remain so, also if the one that spoils them would be changed.
	for _, list := range invalidRules() {
		for _, prefix := range []string{"9", list[0].Prefix, list[len(list)-1].Prefix} {
			x, ok := impl.AddRule(list, prefix, "b")
			checkNoRules(t, fmt.Sprintf("AddRule(%q, %q, \"b\")", writeRules(list), prefix), x, ok)
		}
	}
}

func TestRemoveRule(t *testing.T) {
	for _, list := range sampleRules() {
		for i, r := range list {
			got, ok := impl.RemoveRule(list, r.Prefix)
			what := fmt.Sprintf("RemoveRule(%q, %q)", writeRules(list), r.Prefix)
			checkRules(t, what, got, slices.Delete(slices.Clone(list), i, i+1))
			if !ok {
				t.Errorf("%s is false", what)
			}
		}
		for _, prefix := range append(notPrefixes(), "5", "1200108", "55") {
			x, ok := impl.RemoveRule(list, prefix)
			if indexOfPrefix(list, prefix) < 0 {
				checkNoRules(t, fmt.Sprintf("RemoveRule(%q, %q)", writeRules(list), prefix), x, ok)
			}
		}
	}
	for _, prefix := range []string{"1", "120", "", "0012"} {
		x, ok := impl.RemoveRule(rules("12>b 1200>c"), prefix)
		checkNoRules(t, fmt.Sprintf("RemoveRule of %q", prefix), x, ok)
	}
	for _, list := range invalidRules() {
		for _, r := range list {
			x, ok := impl.RemoveRule(list, r.Prefix)
			checkNoRules(t, fmt.Sprintf("RemoveRule(%q, %q)", writeRules(list), r.Prefix), x, ok)
		}
	}
}

// Promise 6: rules that are left out change nothing.
func TestShrinkRules(t *testing.T) {
	for _, list := range sampleRules() {
		what := fmt.Sprintf("ShrinkRules(%q)", writeRules(list))
		got := impl.ShrinkRules(list)
		checkRules(t, what, got, shrinkByHand(list))
		checkRules(t, what+" once more", impl.ShrinkRules(got), got)
		if !sameByHand(got, list) {
			t.Errorf("%s = %q looks up codes otherwise", what, writeRules(got))
		}
		checkSame(t, got, list, true)
	}
	for _, list := range invalidRules() {
		if got := impl.ShrinkRules(list); len(got) != 0 {
			t.Errorf("ShrinkRules(%q) = %q", writeRules(list), writeRules(got))
		}
	}
}

func TestShrinkRulesCases(t *testing.T) {
	for _, c := range []struct{ list, want string }{
		{"", ""},
		{">here", ">here"},
		{"12>b", "12>b"},
		{exampleRules, "12>b >here 1200>c"},
		{"1200107>b 12>b", "12>b"},
		{"12>b >b", ">b"},
		{">b 12>c 1200>b", ">b 12>c 1200>b"},
		{">b 12>c 120>c 1200>b 12001>c 120010>c", ">b 12>c 1200>b 12001>c"},
		{"1>a 12>a 120>a 1200>a 12001>a 120010>a 1200107>a", "1>a"},
		{"1200107>a 120010>a 12001>a 1200>a 120>a 12>a 1>a >a", ">a"},
		{"12>b 13>b 14>b", "12>b 13>b 14>b"},
		{"12>b 012>b", "12>b 012>b"},
		// The rule with the empty prefix is never used, but no prefix with which it begins has the same Next.
		{">c " + tenRules, ">c " + tenRules},
		{tenRules, tenRules},
		{tenRules + " >b", ">b"},
	} {
		checkRules(t, fmt.Sprintf("ShrinkRules(%q)", c.list), impl.ShrinkRules(rules(c.list)), rules(c.want))
	}
}

func TestSameRules(t *testing.T) {
	d := dice(5)
	list := sampleRules()
	for _, a := range list {
		checkSame(t, a, a, true)
		checkSame(t, a, shuffled(&d, a), true)
		for range 6 {
			b := list[d.roll(len(list))]
			checkSame(t, a, b, sameByHand(a, b))
		}
		if len(a) == 0 {
			continue
		}
		// Without one rule, or with another Next in one, rules are the same only if this one is never used.
		for range 4 {
			changed := slices.Clone(a)
			k := d.roll(len(a))
			changed[k].Next = "other"
			checkSame(t, a, changed, sameByHand(a, changed))
			without := slices.Delete(slices.Clone(a), k, k+1)
			checkSame(t, a, without, sameByHand(a, without))
		}
	}
}

func TestSameRulesCases(t *testing.T) {
	for _, c := range []struct {
		a, b string
		want bool
	}{
		{"", "", true},
		{"", ">here", false},
		{"", "1200107>b", false},
		{"12>b", "12>c", false},
		{"12>b", "13>b", false},
		{"12>b", "12>b 1200107>c", false},
		{"12>b", "12>b 1200107>b", true},
		{"12>b >here", "12>b", false},
		{tenRules, ">b", true},
		{tenRules + " >c", ">b", true},
		{tenRules + " >c", tenRules, true},
		{tenRules + " >c", tenRules + " >here", true},
		{strings.ReplaceAll(tenRules, "7>b", "7>c"), ">b", false},
		{strings.ReplaceAll(tenRules, "7>b", "7>c"), ">b 7>c", true},
		{strings.ReplaceAll(tenRules, " 9>b", ""), ">b", false},
		{strings.ReplaceAll(" "+tenRules, " ", " 120010"), "120010>b", true},
		{strings.ReplaceAll(" "+tenRules, " ", " 120010"), "12001>b", false},
		{strings.ReplaceAll(" "+tenRules, " ", " 120010") + " 120010>c", "120010>b", true},
	} {
		checkSame(t, rules(c.a), rules(c.b), c.want)
	}
	for _, list := range invalidRules() {
		checkSame(t, list, list, false)
		checkSame(t, list, nil, false)
		checkSame(t, list, rules(exampleRules), false)
	}
}

// The results are spoiled, so that memory that they share with an argument shows.
func TestRulesShareNoMemory(t *testing.T) {
	for _, sample := range sampleRules() {
		list, check := guarded(t, sample)
		for what, act := range map[string]func() []impl.Rule{
			"ShrinkRules":                  func() []impl.Rule { return impl.ShrinkRules(list) },
			"AddRule":                      func() []impl.Rule { x, _ := impl.AddRule(list, "55", "b"); return x },
			"AddRule, an empty prefix":     func() []impl.Rule { x, _ := impl.AddRule(list, "", "b"); return x },
			"RemoveRule, the empty prefix": func() []impl.Rule { x, _ := impl.RemoveRule(list, ""); return x },
			"RemoveRule, the first one": func() []impl.Rule {
				if len(list) == 0 {
					return nil
				}
				x, _ := impl.RemoveRule(list, list[0].Prefix)
				return x
			},
			"RemoveRule, the last one": func() []impl.Rule {
				if len(list) == 0 {
					return nil
				}
				x, _ := impl.RemoveRule(list, list[len(list)-1].Prefix)
				return x
			},
		} {
			spoil(act())
			check(what)
		}
		impl.RulesValid(list)
		impl.FormatRules(list)
		impl.LookUp(list, "1200107")
		impl.SameRules(list, list)
		check("another function")
	}
}

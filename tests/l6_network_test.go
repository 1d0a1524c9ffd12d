package tests

import (
	"fmt"
	"slices"
	"strings"
	"testing"

	"loop.example/sortingoffice/impl"
)

// exampleNetwork is the network of the document's example.
const exampleNetwork = "a 12>b >here;b 120>here"

// ringNetwork sends letters through all eight offices and back to the first one, but for those that come home at the last one.
const ringNetwork = "a >b;b >c;c >d;d >e;e >f;f >g;g >h;h 1>here >a"

// offices reads the text of a network without the functions that are tested.
func offices(text string) []impl.Office {
	var net []impl.Office
	for _, part := range strings.Split(text, ";") {
		name, list, _ := strings.Cut(part, " ")
		net = append(net, impl.Office{Name: name, Rules: rules(strings.TrimPrefix(list, "-"))})
	}
	return net
}

// writeNetwork writes any offices, also those that are no network.
func writeNetwork(net []impl.Office) string {
	var parts []string
	for _, o := range net {
		list := writeRules(o.Rules)
		if len(o.Rules) == 0 {
			list = "-"
		}
		parts = append(parts, o.Name+" "+list)
	}
	return strings.Join(parts, ";")
}

// rulesIn returns the rules of all offices.
func rulesIn(net []impl.Office) []impl.Rule {
	var list []impl.Rule
	for _, o := range net {
		list = append(list, o.Rules...)
	}
	return list
}

// someNetwork returns a network of some offices, in which letters often come home, are lost, and loop.
func someNetwork(d *dice, count int) []impl.Office {
	names := []string{"here"}
	for i := range count {
		names = append(names, string(rune('a'+i)))
	}
	net := make([]impl.Office, count)
	for i := range net {
		net[i].Name = names[i+1]
		some := names[d.roll(len(names)):]
		switch d.roll(4) {
		case 0:
			net[i].Rules = someSiblings(d, "12001"[:d.roll(6)], some)
		case 1:
			net[i].Rules = append(someSiblings(d, "", []string{"here", "a"}), someSiblings(d, fmt.Sprint(d.roll(10)), names)...)
		default:
			net[i].Rules = someRules(d, d.roll(6), some)
		}
	}
	return shuffled(d, net)
}

// sampleNetworks has networks with one office to eight of them.
func sampleNetworks() [][]impl.Office {
	d := dice(33)
	var list [][]impl.Office
	for _, text := range []string{
		exampleNetwork, ringNetwork, "a -", "zzzzzzzz -", "a >here", "a >a", "a >b;b >a", "a 1200107>here", "a 1200107>a >here", "a >b;b >c;c >b", "her >here;heree >her",
		"a -;b -;c -;d -;e -;f -;g -;h -", "a 1>here 12>b;b 12>a", "a 0>here 1>b;b 1>a 1200107>here", "a " + strings.ReplaceAll(tenRules, "b", "here"),
	} {
		list = append(list, offices(text))
	}
	list = append(list, []impl.Office{{Name: "a", Rules: manyRules(20, "here")}, {Name: "b", Rules: manyRules(20, "a")}})
	for count := 1; count <= 8; count++ {
		for range 12 {
			list = append(list, someNetwork(&d, count))
		}
	}
	return list
}

// invalidNetworks has offices that are no network, for each condition.
func invalidNetworks() [][]impl.Office {
	list := [][]impl.Office{nil, {}, make([]impl.Office, 1), make([]impl.Office, 9)}
	for _, text := range []string{
		"a -;b -;c -;d -;e -;f -;g -;h -;i -", "a -;a -", "a -;b -;a -", "a >here;b >here;b >a", "here -", "here >here", "a -;here -", "here -;a >here",
		"a >b", "a 12>c", "a 12>b >here;b 120>c", "a >here;b 12>here 13>her", "a >heree", "a >b;bb -", "a >aa",
	} {
		list = append(list, offices(text))
	}
	for _, name := range notNames() {
		list = append(list, []impl.Office{{Name: name}}, []impl.Office{{Name: "a"}, {Name: name}}, []impl.Office{{Name: name}, {Name: "a"}})
		list = append(list, []impl.Office{{Name: name, Rules: []impl.Rule{{Prefix: "", Next: name}}}})
	}
	for _, r := range invalidRules() {
		// All names that occur in these rules are offices, so that only the rules themselves are invalid.
		list = append(list, []impl.Office{{Name: "a", Rules: r}, {Name: "b"}, {Name: "c"}}, []impl.Office{{Name: "b"}, {Name: "c"}, {Name: "a", Rules: r}})
	}
	return list
}

// routeByHand follows a letter until it ends, or is at an office a second time.
func routeByHand(net []impl.Office, start string, c string) ([]string, int) {
	visits := map[string]int{}
	var path []string
	for name := start; ; {
		i := slices.IndexFunc(net, func(o impl.Office) bool { return o.Name == name })
		path = append(path, name)
		visits[name]++
		if visits[name] == 2 {
			return path, 2
		}
		next, ok := lookUpByHand(net[i].Rules, c)
		if !ok {
			return path, 1
		}
		if next == "here" {
			return path, 0
		}
		name = next
	}
}

// faultyByHand tries all beginnings, and takes those of which all letters are faulty, but not all those of the beginning that is one digit shorter.
func faultyByHand(net []impl.Office, start string, beginnings []string) []string {
	var homes []string
	for _, prefix := range beginnings {
		c := (prefix + "0000000")[:7]
		if _, end := routeByHand(net, start, c); end == 0 {
			homes = append(homes, c)
		}
	}
	faulty := func(prefix string) bool {
		i, _ := slices.BinarySearch(homes, prefix)
		return i == len(homes) || !strings.HasPrefix(homes[i], prefix)
	}
	return slices.DeleteFunc(slices.Clone(beginnings), func(prefix string) bool {
		return !faulty(prefix) || prefix != "" && faulty(prefix[:len(prefix)-1])
	})
}

// notOffices returns names that no office of a network has.
func notOffices() []string {
	return append(notNames(), "here", "nowhere", "zz")
}

func checkRoute(t *testing.T, net []impl.Office, start string, c string, want []string, wantEnd int) {
	t.Helper()
	what := fmt.Sprintf("RoutePath(%q, %q, %q)", writeNetwork(net), start, c)
	path, end := impl.RoutePath(net, start, c)
	checkCodes(t, what, path, want)
	if end != wantEnd {
		t.Errorf("%s ends with %d, not %d", what, end, wantEnd)
	}
	wantName, wantOk := "", wantEnd == 0
	if wantOk {
		wantName = want[len(want)-1]
	}
	if name, ok := impl.HomeOf(net, start, c); name != wantName || ok != wantOk {
		t.Errorf("HomeOf(%q, %q, %q) = %q, %v", writeNetwork(net), start, c, name, ok)
	}
}

func checkTransit(t *testing.T, net []impl.Office, start string, b []impl.Letter, want int) {
	t.Helper()
	if got := impl.TransitCount(net, start, b); got != want {
		t.Errorf("TransitCount(%q, %q, %v) = %d, not %d", writeNetwork(net), start, b, got, want)
	}
}

func checkFaulty(t *testing.T, net []impl.Office, start string, want []string) {
	t.Helper()
	checkCodes(t, fmt.Sprintf("FaultyPrefixes(%q, %q)", writeNetwork(net), start), impl.FaultyPrefixes(net, start), want)
}

func checkNoNetwork(t *testing.T, text string) {
	t.Helper()
	if x, ok := impl.ParseNetwork(text); len(x) != 0 || ok {
		t.Errorf("ParseNetwork(%.50q) = %v, %v", text, x, ok)
	}
}

func TestNetworkValid(t *testing.T) {
	for _, net := range sampleNetworks() {
		if !impl.NetworkValid(net) {
			t.Errorf("NetworkValid(%q) is false", writeNetwork(net))
		}
	}
	for _, net := range invalidNetworks() {
		if impl.NetworkValid(net) {
			t.Errorf("NetworkValid(%q) is true", writeNetwork(net))
		}
	}
}

func TestNetworkText(t *testing.T) {
	for _, net := range sampleNetworks() {
		want := writeNetwork(net)
		if got := impl.FormatNetwork(net); got != want {
			t.Errorf("FormatNetwork(%q) = %q", want, got)
		}
		parsed, ok := impl.ParseNetwork(want)
		if writeNetwork(parsed) != want || len(parsed) != len(net) || !ok {
			t.Errorf("ParseNetwork(%q) = %v, %v", want, parsed, ok)
		}
	}
	for _, net := range invalidNetworks() {
		if got := impl.FormatNetwork(net); got != "" {
			t.Errorf("FormatNetwork(%q) = %q", writeNetwork(net), got)
		}
		checkNoNetwork(t, writeNetwork(net))
	}
}

func TestParseNetworkInvalid(t *testing.T) {
	for _, text := range []string{
		"", " ", "-", ";", ";;", "a", "a ", " a", " -", "a  -", "a - ", " a -", "a -;", ";a -", "a -;;b -", "a -; b -", "a - ;b -", "a -;b", "a -;b ", "a;b", "a -,b -", "a -\n", "a -\nb -",
		"a -;b\t-", "A -", "1 -", "a\xff -", "abcdefghi -", "here -", "a -;here >a", "a 12", "a 12>", "a 12>A", "a >a >a", "a 12>a  >a", "a x>a", "a - -", "a --", "a - >a", "a >a -", "a >b", "a >a;a >a",
		"-a -", "a >here>a", "a >here;b 12>c", strings.Repeat("a -;", 100000), strings.Repeat(";", 100000), strings.Repeat(" ", 100000), "a " + strings.Repeat(">a ", 100000),
	} {
		checkNoNetwork(t, text)
	}
}

func TestRoutePath(t *testing.T) {
	for _, net := range sampleNetworks() {
		codes := probesOf(rulesIn(net))
		for _, o := range net {
			for i := 0; i < len(codes); i += 1 + len(codes)/60 {
				path, end := routeByHand(net, o.Name, codes[i])
				checkRoute(t, net, o.Name, codes[i], path, end)
			}
		}
	}
}

func TestRoutePathCases(t *testing.T) {
	for _, c := range []struct {
		net, start, code, path string
		end                    int
	}{
		{exampleNetwork, "a", "1200101", "a b", impl.RouteHome},
		{exampleNetwork, "a", "1300101", "a", impl.RouteHome},
		{exampleNetwork, "a", "1210101", "a b", impl.RouteLost},
		{exampleNetwork, "b", "1200101", "b", impl.RouteHome},
		{exampleNetwork, "b", "1300101", "b", impl.RouteLost},
		{"a -", "a", "0000000", "a", impl.RouteLost},
		{"a >a", "a", "0000000", "a a", impl.RouteLoop},
		{"a 12>a 1200107>here", "a", "1200107", "a", impl.RouteHome},
		{"a 12>a 1200107>here", "a", "1200106", "a a", impl.RouteLoop},
		{"a >b;b >a", "a", "0000000", "a b a", impl.RouteLoop},
		{"a >b;b >a", "b", "0000000", "b a b", impl.RouteLoop},
		{"a >b;b >c;c >b", "a", "1200107", "a b c b", impl.RouteLoop},
		{"a >b;b >b", "a", "1200107", "a b b", impl.RouteLoop},
		{"c >here;b 12>c;a >b", "a", "1200107", "a b c", impl.RouteHome},
		{"c >here;b 12>c;a >b", "a", "1100107", "a b", impl.RouteLost},
		{ringNetwork, "a", "1200107", "a b c d e f g h", impl.RouteHome},
		{ringNetwork, "a", "2200107", "a b c d e f g h a", impl.RouteLoop},
		{ringNetwork, "e", "0200107", "e f g h a b c d e", impl.RouteLoop},
	} {
		checkRoute(t, offices(c.net), c.start, c.code, strings.Fields(c.path), c.end)
	}
}

func TestRoutePathInvalid(t *testing.T) {
	for _, net := range sampleNetworks()[:20] {
		for _, name := range notOffices() {
			checkRoute(t, net, name, "1200107", nil, impl.RouteBroken)
		}
		for _, c := range append(notCodes(), notPrefixes()...) {
			checkRoute(t, net, net[0].Name, c, nil, impl.RouteBroken)
		}
	}
	for _, net := range invalidNetworks() {
		for _, name := range []string{"a", "b", "here", "", "B"} {
			checkRoute(t, net, name, "1200107", nil, impl.RouteBroken)
		}
	}
}

// Promise 6: the faulty prefixes are exactly those of letters that do not come home.
func TestFaultyPrefixes(t *testing.T) {
	for _, net := range sampleNetworks() {
		beginnings := beginningsOf(rulesIn(net))
		for _, o := range net {
			checkFaulty(t, net, o.Name, faultyByHand(net, o.Name, beginnings))
		}
	}
}

// Promise 6, without any knowledge of where rules part: if no prefix has more than three digits, the codes of these tell all.
func TestFaultyPrefixesOfAllCodes(t *testing.T) {
	beginnings := []string{""}
	for i := range 1110 {
		switch {
		case i < 10:
			beginnings = append(beginnings, fmt.Sprintf("%01d", i))
		case i < 110:
			beginnings = append(beginnings, fmt.Sprintf("%02d", i-10))
		default:
			beginnings = append(beginnings, fmt.Sprintf("%03d", i-110))
		}
	}
	slices.Sort(beginnings)
	d := dice(44)
	for count := 1; count <= 8; count++ {
		for range 3 {
			net := someNetwork(&d, count)
			for i := range net {
				net[i].Rules = slices.DeleteFunc(net[i].Rules, func(r impl.Rule) bool { return len(r.Prefix) > 3 })
			}
			checkFaulty(t, net, "a", faultyByHand(net, "a", beginnings))
		}
	}
}

// Promise 6: a letter comes home if its code begins with none of the faulty prefixes, and only then.
func TestFaultyPrefixesOfLetters(t *testing.T) {
	d := dice(55)
	for _, net := range sampleNetworks() {
		list := impl.FaultyPrefixes(net, net[0].Name)
		codes := probesOf(rulesIn(net))
		for range 100 {
			codes = append(codes, fmt.Sprintf("%07d", d.roll(10000000)))
		}
		for _, c := range codes {
			faulty := slices.ContainsFunc(list, func(prefix string) bool { return strings.HasPrefix(c, prefix) })
			if name, ok := impl.HomeOf(net, net[0].Name, c); ok == faulty {
				t.Errorf("HomeOf(%q, %q, %q) = %q, %v, but the faulty prefixes are %q", writeNetwork(net), net[0].Name, c, name, ok, list)
			}
		}
	}
}

func TestFaultyPrefixesCases(t *testing.T) {
	allButSeven := strings.ReplaceAll(strings.ReplaceAll(tenRules, "b", "here"), "7>here", "7>a")
	for _, c := range []struct{ net, start, want string }{
		{exampleNetwork, "a", "121 122 123 124 125 126 127 128 129"},
		{exampleNetwork, "b", "0 10 11 121 122 123 124 125 126 127 128 129 13 14 15 16 17 18 19 2 3 4 5 6 7 8 9"},
		{"a >here", "a", ""},
		{"a >b;b >c;c >here", "a", ""},
		{"a " + strings.ReplaceAll(tenRules, "b", "here"), "a", ""},
		{"a " + strings.ReplaceAll(tenRules, "b", "here") + " >a", "a", ""},
		{"a " + allButSeven, "a", "7"},
		{"a >here 1200107>a", "a", "1200107"},
		{"a >here 1200107>a 1200108>a 1200106>b;b -", "a", "1200106 1200107 1200108"},
		{"a >here" + strings.ReplaceAll(" "+strings.ReplaceAll(tenRules, "b", "a"), " ", " 120010"), "a", "120010"},
		{"a >here 120>b;b" + strings.ReplaceAll(" "+strings.ReplaceAll(tenRules, "b", "a"), " ", " 12001"), "a", "120"},
		{"a >here 2>a 10>a 1>here 9>a 0>a", "a", "0 10 2 9"},
		// One half of a prefix is lost, the other one loops.
		{"a 12>b >here;b 120>a 121>b 122>b 123>a 124>b", "a", "12"},
		{ringNetwork, "a", "0 2 3 4 5 6 7 8 9"},
		{"a >here;b 12>a", "a", ""},
		{"a >here;b 12>a 13>b", "b", "0 10 11 13 14 15 16 17 18 19 2 3 4 5 6 7 8 9"},
	} {
		checkFaulty(t, offices(c.net), c.start, strings.Fields(c.want))
	}
	// If no letter comes home, all codes begin with the empty prefix.
	for _, text := range []string{"a -", "a >a", "a >b;b >a", "a 1200107>a", "a 12>b;b 13>here", "a " + strings.ReplaceAll(tenRules, "b", "a"), "a " + strings.ReplaceAll(tenRules, "b", "a") + " >here"} {
		checkFaulty(t, offices(text), "a", []string{""})
	}
	seven := impl.FaultyPrefixes(offices("a 1200107>here"), "a")
	if len(seven) != 63 || seven[0] != "0" || seven[1] != "10" || seven[62] != "9" {
		t.Errorf("FaultyPrefixes around a single code = %q", seven)
	}
}

// The greatest network has as many rules of as many digits as possible, with no common beginnings.
func TestFaultyPrefixesOfTheGreatestNetwork(t *testing.T) {
	net := make([]impl.Office, 8)
	for i := range net {
		net[i].Name = string(rune('a' + i))
		for k := range 19 {
			net[i].Rules = append(net[i].Rules, impl.Rule{Prefix: fmt.Sprintf("%07d", 9*(i*19+k)*7919%10000000), Next: "a"})
		}
		net[i].Rules = append(net[i].Rules, impl.Rule{Next: string(rune('a' + i + 1))})
	}
	net[7].Rules[19].Next = "here"
	checkFaulty(t, net, "a", faultyByHand(net, "a", beginningsOf(rulesIn(net))))
}

func TestFaultyPrefixesInvalid(t *testing.T) {
	for _, net := range sampleNetworks()[:20] {
		for _, name := range notOffices() {
			checkFaulty(t, net, name, nil)
		}
	}
	for _, net := range invalidNetworks() {
		for _, name := range []string{"a", "b", "here", ""} {
			checkFaulty(t, net, name, nil)
		}
	}
}

func TestTransitCount(t *testing.T) {
	for i, net := range sampleNetworks() {
		batches := sampleBatches()
		for _, b := range [][]impl.Letter{nil, batches[i%len(batches)], batches[(i*7+3)%len(batches)]} {
			for _, o := range net {
				want := 0
				for _, l := range b {
					path, _ := routeByHand(net, o.Name, l.Code)
					want += len(path) - 1
				}
				checkTransit(t, net, o.Name, b, want)
			}
		}
	}
}

func TestTransitCountCases(t *testing.T) {
	for _, c := range []struct {
		net, start, letters string
		want                int
	}{
		{exampleNetwork, "a", "", 0},
		{exampleNetwork, "a", "1:1200101 2:1300101 3:1210101", 2},
		{exampleNetwork, "b", "1:1200101 2:1300101 3:1210101", 0},
		{"a >a", "a", "7:1200107", 1},
		{"a >b;b >a", "a", "7:1200107 8:1200107", 4},
		{ringNetwork, "a", "1:1200101 2:0200101", 15},
	} {
		checkTransit(t, offices(c.net), c.start, batch(c.letters), c.want)
	}
	checkTransit(t, offices(ringNetwork), "b", manyLetters(60), 360)
}

func TestTransitCountInvalid(t *testing.T) {
	good := [][]impl.Letter{nil, batch("1:1200107"), manyLetters(60)}
	for _, b := range good {
		for _, name := range notOffices() {
			checkTransit(t, offices(exampleNetwork), name, b, -1)
		}
		for _, net := range invalidNetworks() {
			checkTransit(t, net, "a", b, -1)
			checkTransit(t, net, "here", b, -1)
			checkTransit(t, net, "", b, -1)
		}
	}
	for _, b := range invalidBatches() {
		checkTransit(t, offices(exampleNetwork), "a", b, -1)
		checkTransit(t, offices(exampleNetwork), "b", b, -1)
	}
}

// The results are spoiled, so that memory that they share with an argument or with each other shows.
func TestNetworksShareNoMemory(t *testing.T) {
	for _, sample := range sampleNetworks() {
		inner := slices.Clone(sample)
		var checks []func(string)
		for i, o := range inner {
			list, check := guarded(t, o.Rules)
			inner[i].Rules = list
			checks = append(checks, check)
		}
		net, check := guarded(t, inner)
		checks = append(checks, check)
		start := net[0].Name
		text := impl.FormatNetwork(net)
		impl.NetworkValid(net)
		impl.HomeOf(net, start, "1200107")
		impl.TransitCount(net, start, manyLetters(3))
		path, _ := impl.RoutePath(net, start, "1200107")
		spoil(path)
		spoil(impl.FaultyPrefixes(net, start))
		for _, check := range checks {
			check("a function of the chapter")
		}
		parsed, _ := impl.ParseNetwork(text)
		for i, o := range parsed {
			spoil(o.Rules)
			if writeNetwork(parsed[i+1:]) != writeNetwork(net[i+1:]) {
				t.Errorf("ParseNetwork(%q) has offices with common memory", text)
			}
		}
		spoil(parsed)
		if again, _ := impl.ParseNetwork(text); writeNetwork(again) != text {
			t.Errorf("ParseNetwork(%q) differs the second time", text)
		}
	}
}

package tests

import (
	"fmt"
	"slices"
	"strconv"
	"strings"
	"sync"
	"testing"

	"loop.example/sortingoffice/impl"
)

// exampleScript is the script of the document's example.
const exampleScript = `code 120-01-07
bars 1200107
letters 1:1200102 2:1200104 3:1200101 4:1200103 5:1200106
plan 2 2 1200103 1200101 1200102
forward 1200104 1200101
forward 1200101 1200104
hold 1200106
day
trays
fate 1200104
fate 1200109
loads 0
moved
fault 0 1 1
sequence
seal
net a 12>b >here;b 120>here
path a 1200101
path a 1210000
faults b
foo
`

// exampleOutput is the output of the document's example.
const exampleOutput = `1200107
|...||..|.|||...||......||||...|...||.|..|
1:1200102 2:1200104 3:1200101 4:1200103 5:1200106
ok
1200104>1200101
no
1200106
4:1200103 2:1200101 3:1200101 1:1200102/-/5:1200106/-
1200103-1200102:4
1200101 round
1200109 strange
2 1
4
4:1200103 3:1200101 1:1200102
4:1200103 3:1200101 1:1200102/2:1200104 5:1200106
26 3938
ok
a b home
a b lost
0* 10* 11* 121* 122* 123* 124* 125* 126* 127* 128* 129* 13* 14* 15* 16* 17* 18* 19* 2* 3* 4* 5* 6* 7* 8* 9*
what
`

// oneField and the other lists have the words of all lines with as many fields; the rest of textWords is one text.
var (
	noField     = []string{"letters", "sort", "sequence", "seal", "plan", "moved", "forwards", "direct", "endless", "held", "day", "trays", "net"}
	oneField    = []string{"pass", "count", "rank", "loads", "stay", "resolve", "hold", "size", "fate", "faults", "code", "bars", "read"}
	twoFields   = []string{"swap", "forward", "path"}
	threeFields = []string{"fault"}
	textWords   = []string{"letters", "plan", "forwards", "net"}
)

// stateLines have the whole state of an interpreter as their output: the size shows in the trays of 60 letters.
var stateLines = []string{"letters", "plan", "forwards", "held", "net", "plan 2 1 1200107", "forwards -", "letters " + writeLetters(manyLetters(60)), "trays"}

// checkScript runs lines, and compares the output of each one.
func checkScript(t *testing.T, pairs ...string) {
	t.Helper()
	var lines, want strings.Builder
	for i := 0; i < len(pairs); i += 2 {
		lines.WriteString(pairs[i] + "\n")
		want.WriteString(pairs[i+1] + "\n")
	}
	if got := impl.RunScript(lines.String()); got != want.String() {
		t.Errorf("RunScript(%q) = %q, not %q", lines.String(), got, want.String())
	}
}

// checkLast runs lines, and compares the output of the last one.
func checkLast(t *testing.T, script string, want string) {
	t.Helper()
	output := strings.Split(impl.RunScript(script), "\n")
	if len(output) < 2 || output[len(output)-2] != want || output[len(output)-1] != "" {
		t.Errorf("RunScript(%q) = %q, which does not end with the line %q", script, output, want)
	}
}

// checkRefused checks that a line behind others has one answer, and that nothing changes.
func checkRefused(t *testing.T, before string, line string, answer string) {
	t.Helper()
	dump := strings.Join(stateLines, "\n")
	first := impl.RunScript(before)
	want := first + answer + "\n" + strings.TrimPrefix(impl.RunScript(before+dump), first)
	if got := impl.RunScript(before + line + "\n" + dump); got != want {
		t.Errorf("RunScript of %q behind %q = %q, not %q", line, before, got, want)
	}
}

// someState is a script behind which nothing has its first value.
const someState = `letters 1:1200102 2:1200104 3:1200101 4:1200103 5:1200106
plan 2 2 1200103 1200101 1200102
forwards 1200104>1200101 1200107>1200107
hold 1200106
size 3
net a 12>b >here;b 120>here
`

func TestLimitsOfScripts(t *testing.T) {
	if impl.MaxScript != 20000 || impl.MaxLines != 100 || impl.MaxOutput != 40000 {
		t.Error("limits", impl.MaxScript, impl.MaxLines, impl.MaxOutput)
	}
}

func TestExampleScript(t *testing.T) {
	if got := impl.RunScript(exampleScript); got != exampleOutput {
		t.Errorf("RunScript = %q", got)
	}
	if got := impl.RunScript(strings.TrimSuffix(exampleScript, "\n")); got != exampleOutput {
		t.Errorf("RunScript without the last newline = %q", got)
	}
	if got := impl.RunScript("\n\n" + strings.ReplaceAll(exampleScript, "\n", "\n\n")); got != exampleOutput {
		t.Errorf("RunScript with empty lines = %q", got)
	}
}

// Commands before there are letters, orders, held codes, and a plan, a size and a network of one's own.
func TestFirstState(t *testing.T) {
	for line, want := range map[string]string{
		"letters": "-", "sort": "-", "pass 0": "-", "pass 6": "-", "sequence": "-/-", "seal": "0 0", "count 1": "0", "count ": "0", "count 0000000": "0",
		"plan": "4 2 0000000", "swap 0 0": "4 2 0000000", "rank 0000000": "0", "rank 1200107": "no", "loads 0": "0 0 0 0", "loads 1": "0 0 0 0", "moved": "0",
		"fault 0 1 0": "-", "fault 1 9999 3": "-", "fault 2 1 0": "no", "fault 0 1 4": "no", "forwards": "-", "direct": "-", "endless": "-", "stay 0000000": "no", "resolve 1200107": "1200107 0",
		"forward 1200101 1200102": "1200101>1200102", "held": "-", "day": "-/-/-/-", "trays": "-", "fate 0000000": "0000000 round", "fate 1200107": "1200107 strange",
		"net": "a -", "path a 1200107": "a lost", "faults a": "*", "letters -": "-", "forwards -": "ok", "net a -": "ok",
	} {
		if got := impl.RunScript(line); got != want+"\n" {
			t.Errorf("RunScript(%q) = %q, not %q", line, got, want)
		}
	}
	// The size is 10 at first.
	checkScript(t, "plan 2 1 1200107", "ok", "letters "+writeLetters(manyLetters(21)), writeLetters(manyLetters(21)), "trays", "1200107-1200107:10 1200107-1200107:10 1200107-1200107:1")
}

func TestLetterLines(t *testing.T) {
	text := "9:1200107 2:1200103 3:1200007 4:1200103"
	checkScript(t,
		"letters "+text, text, "letters", text, "seal", "110 867", "count 12001", "3", "count ", "4", "count 1200007", "1", "count 2", "0",
		"pass 6", "2:1200103 4:1200103 9:1200107 3:1200007", "letters", "2:1200103 4:1200103 9:1200107 3:1200007",
		"pass 4", "3:1200007 2:1200103 4:1200103 9:1200107", "seal", "110 1671",
		"letters "+text, text, "sort", "3:1200007 2:1200103 4:1200103 9:1200107", "letters", "3:1200007 2:1200103 4:1200103 9:1200107",
		"letters -", "-", "letters", "-")
	for _, b := range sampleBatches() {
		sorted, passed, digit := stableByHand(b), slices.Clone(b), len(b)%7
		slices.SortStableFunc(passed, func(x impl.Letter, y impl.Letter) int { return int(x.Code[digit]) - int(y.Code[digit]) })
		checkScript(t, "letters "+writeLetters(b), writeLetters(b), "pass "+strconv.Itoa(digit), writeLetters(passed), "letters", writeLetters(passed),
			"letters "+writeLetters(b), writeLetters(b), "sort", writeLetters(sorted), "letters", writeLetters(sorted))
	}
}

func TestLetterLinesRefused(t *testing.T) {
	for _, line := range []string{
		"letters ", "letters  ", "letters 1", "letters 1:120010", "letters 01:1200107", "letters 0:1200107", "letters 1:1200107 ", "letters 1:1200107  2:1200107", "letters  -", "letters - ",
		"letters 1:1200107 1:1200108", "letters " + writeLetters(manyLetters(61)), "pass 7", "pass -1", "pass x", "pass ", "pass 00", "pass +1", "pass -0", "pass 99999999999999999",
		"count x", "count -", "count 12001070", "count -1",
	} {
		checkRefused(t, someState, line, "no")
	}
}

// The letters that have no rank are gone behind a sequence.
func TestSequenceLines(t *testing.T) {
	checkScript(t,
		"letters 1:1200102 2:1200104 3:1200101 4:1200103 5:1200106", "1:1200102 2:1200104 3:1200101 4:1200103 5:1200106",
		"plan 2 2 1200103 1200101 1200102", "ok", "moved", "4", "loads 0", "2 1", "loads 1", "2 1",
		"fault 0 1 1", "4:1200103 3:1200101 1:1200102", "fault 0 2 1", "4:1200103 3:1200101 1:1200102", "fault 1 4 1", "3:1200101 4:1200103 1:1200102",
		"letters", "1:1200102 2:1200104 3:1200101 4:1200103 5:1200106",
		"sequence", "4:1200103 3:1200101 1:1200102/2:1200104 5:1200106", "letters", "4:1200103 3:1200101 1:1200102",
		"sequence", "4:1200103 3:1200101 1:1200102/-", "moved", "0", "loads 0", "2 1",
		"plan 2 1 2000000", "ok", "moved", "3", "loads 0", "0 0", "sequence", "-/4:1200103 3:1200101 1:1200102", "letters", "-", "sequence", "-/-")
	d := dice(56)
	for _, p := range samplePlans() {
		b := roundBatch(&d, p, 1+d.roll(60))
		round, strange := roundByHand(p, b)
		checkScript(t, "plan "+impl.FormatPlan(p), "ok", "letters "+writeLetters(b), writeLetters(b), "moved", strconv.Itoa(len(b)-keptInPairs(p, b)),
			"sequence", writeLetters(round)+"/"+writeLetters(strange), "letters", writeLetters(round), "plan", impl.FormatPlan(p))
	}
}

func TestPlanLines(t *testing.T) {
	checkScript(t,
		"plan "+fourPoints, "ok", "plan", fourPoints, "rank 1200101", "0", "rank 1200104", "3", "swap 0 3", "2 2 1200102 1200103 1200104 1200101",
		"plan", "2 2 1200102 1200103 1200104 1200101", "rank 1200101", "3", "swap 3 1", "2 2 1200102 1200101 1200103 1200104", "swap 2 2", "2 2 1200102 1200101 1200103 1200104",
		"plan 16 1 1200101", "ok", "loads 0", "0"+strings.Repeat(" 0", 15), "letters 1:1200101 2:1200102 3:1200101", "1:1200101 2:1200102 3:1200101", "loads 0", "2"+strings.Repeat(" 0", 15))
	for _, line := range []string{
		"plan ", "plan -", "plan 2 2", "plan 2 2 ", "plan 02 2 1200103", "plan 2 2 1200103 ", "plan 2 2 1200103 1200103", "plan 2 1 1200101 1200102 1200103", "plan 2  2 1200103", "plan 17 1 1200101",
		"swap 0 3", "swap 3 0", "swap 0 -1", "swap -1 0", "swap x 0", "swap 0 ", "swap  0", "swap  ", "swap 00 1", "swap 0 -0", "swap 99999999999999999 0", "swap 18446744073709551616 0",
		"rank 1200104", "rank 120010", "rank x", "rank ", "loads 2", "loads -1", "loads ", "loads 00", "loads x",
		"fault 2 1 0", "fault -1 1 0", "fault 0 0 0", "fault 0 -1 0", "fault 0 10000 0", "fault 0 1 2", "fault 0 1 -1", "fault 0 1 ", "fault 0  0", "fault  1 0", "fault   ", "fault x 1 0", "fault 0 x 0", "fault 0 1 x", "fault 00 1 0", "fault 0 01 0", "fault 0 1 +1",
	} {
		checkRefused(t, someState, line, "no")
	}
}

func TestForwardLines(t *testing.T) {
	checkScript(t,
		"forward 1200101 1200102", "1200101>1200102", "forward 1200102 1200103", "1200101>1200102 1200102>1200103", "forward 1200103 1200101", "no", "forward 1200101 1200101", "no",
		"forwards", "1200101>1200102 1200102>1200103", "resolve 1200101", "1200103 2", "resolve 1200103", "1200103 0", "resolve 7777777", "7777777 0", "endless", "-",
		"forward 1200101 1200104", "1200102>1200103 1200101>1200104", "stay 1200102", "1200101>1200104", "stay 1200102", "no", "stay 1200101", "-", "stay 1200101", "no",
		"forwards "+exampleForwards, "ok", "forwards", exampleForwards, "endless", "1200104", "resolve 1200104", "no", "fate 1200104", "1200104 stuck", "fate 1200101", "1200103 strange",
		"direct", "1200101>1200103 1200102>1200103", "forwards", "1200101>1200103 1200102>1200103", "endless", "-", "resolve 1200101", "1200103 1", "resolve 1200104", "1200104 0",
		"forwards 1200109>1200108 1200108>1200109 1200101>1200109 1200100>1200100", "ok", "endless", "1200100 1200101 1200108 1200109", "direct", "-", "forwards", "-")
	for _, list := range sampleForwards() {
		endless := strings.Join(endlessByHand(list), " ")
		if endless == "" {
			endless = "-"
		}
		text := impl.FormatForwards(list)
		checkScript(t, "forwards "+text, "ok", "endless", endless, "forwards", text, "direct", impl.FormatForwards(impl.DirectForwards(list)), "endless", "-")
	}
}

func TestForwardLinesRefused(t *testing.T) {
	for _, line := range []string{
		"forwards ", "forwards x", "forwards 1200101", "forwards 1200101>1200102 ", "forwards 1200101>1200102 1200101>1200103", "forwards 1200101>1200102>1200103", "forwards  -", "forwards " + impl.FormatForwards(chain(1, 30)) + " 0000040>0000041",
		"forward 1200101 1200104", "forward 1200103 1200107", "forward 1200101 1200101", "forward x 1200101", "forward 1200101 x", "forward 1200101 ", "forward  1200101", "forward  ", "forward 120010 1200102",
		"stay 1200101", "stay x", "stay ", "stay 1200105", "resolve 1200107", "resolve x", "resolve ", "resolve 12001070", "fate x", "fate ", "fate 12001", "fate -",
		"hold x", "hold ", "hold 12001", "hold 12001060", "hold -",
		"size 0", "size 21", "size -1", "size x", "size ", "size 03", "size +3", "size -3", "size 3.0", "size 99999999999999999", "size 18446744073709551619", "size 4294967299",
	} {
		checkRefused(t, someState, line, "no")
	}
	// With as many orders as there may be, only one that is there can be changed.
	full := "forwards " + impl.FormatForwards(chain(1, 30)) + "\n"
	checkRefused(t, full, "forward 1200101 1200102", "no")
	checkLast(t, full+"forward 0000030 1200102", impl.FormatForwards(chain(1, 29))+" 0000030>1200102")
}

func TestHoldLines(t *testing.T) {
	checkScript(t, "hold 1200106", "1200106", "hold 1200101", "1200106 1200101", "hold 1200106", "1200106 1200101 1200106", "hold x", "no", "held", "1200106 1200101 1200106",
		"letters 1:1200101 2:0000000", "1:1200101 2:0000000", "day", "2:0000000/-/1:1200101/-", "letters", "1:1200101 2:0000000")
	// A code counts as often as it is held.
	for _, codes := range [][]string{someOrder(31), slices.Repeat([]string{"1200106"}, 31)} {
		script := ""
		for i, c := range codes[:30] {
			script += "hold " + c + "\n"
			checkLast(t, script, strings.Join(codes[:i+1], " "))
			checkLast(t, script+"held", strings.Join(codes[:i+1], " "))
		}
		checkRefused(t, script, "hold "+codes[30], "no")
		checkRefused(t, script, "hold "+codes[0], "no")
	}
}

func TestDayLines(t *testing.T) {
	checkScript(t,
		"letters 1:1200102 2:1200104 3:1200101 4:1200103 5:1200106 6:1200107 7:1200109", "1:1200102 2:1200104 3:1200101 4:1200103 5:1200106 6:1200107 7:1200109",
		"day", "-/1:1200102 2:1200104 3:1200101 4:1200103 5:1200106 6:1200107 7:1200109/-/-", "trays", "-",
		"plan "+examplePlan, "ok", "day", "4:1200103 3:1200101 1:1200102/2:1200104 5:1200106 6:1200107 7:1200109/-/-", "trays", "1200103-1200102:3",
		"forwards 1200104>1200101 1200107>1200107", "ok", "hold 1200106", "1200106", "size 3", "ok",
		"day", "4:1200103 2:1200101 3:1200101 1:1200102/7:1200109/5:1200106/6:1200107", "trays", "1200103-1200101:3 1200102-1200102:1",
		"fate 1200104", "1200101 round", "fate 1200106", "1200106 held", "fate 1200107", "1200107 stuck", "fate 1200109", "1200109 strange",
		"hold 1200101", "1200106 1200101", "fate 1200104", "1200101 held", "day", "4:1200103 1:1200102/7:1200109/2:1200101 3:1200101 5:1200106/6:1200107", "size 1", "ok", "trays", "1200103-1200103:1 1200102-1200102:1",
		"letters", "1:1200102 2:1200104 3:1200101 4:1200103 5:1200106 6:1200107 7:1200109")
	d := dice(57)
	for _, day := range sampleDays() {
		b := dayBatch(&d, day, d.roll(61))
		script := "plan " + impl.FormatPlan(day.Plan) + "\nforwards " + impl.FormatForwards(day.Forwards) + "\nsize " + strconv.Itoa(day.Size) + "\nletters " + writeLetters(b) + "\n"
		for _, c := range day.Held {
			script += "hold " + c + "\n"
		}
		r := reportByHand(day, b)
		checkLast(t, script+"day", writeReport(r))
		checkLast(t, script+"trays", impl.FormatTrays(fillByHand(r.Round, day.Size, 0)))
		for _, l := range b {
			code, fate := fateByHand(day, l.Code)
			checkLast(t, script+"fate "+l.Code, code+" "+fate)
		}
	}
}

func TestNetworkLines(t *testing.T) {
	checkScript(t,
		"net "+exampleNetwork, "ok", "net", exampleNetwork, "path a 1200101", "a b home", "path a 1300101", "a home", "path a 1210101", "a b lost", "path b 1300101", "b lost",
		"faults a", "121* 122* 123* 124* 125* 126* 127* 128* 129*", "faults here", "no", "faults c", "no",
		"net a >b;b >a", "ok", "path a 1200101", "a b a loop", "path b 0000000", "b a b loop", "faults a", "*",
		"net "+ringNetwork, "ok", "path a 0000000", "a b c d e f g h a loop", "path a 1000000", "a b c d e f g h home", "faults h", "0* 2* 3* 4* 5* 6* 7* 8* 9*",
		// If all letters come home, there are no prefixes; this is not the same as no such office.
		"net a >here", "ok", "faults a", "-", "faults b", "no", "path a 0000000", "a home", "net a -", "ok", "faults a", "*", "net a 1200107>here", "ok", "path a 1200107", "a home", "path a 1200108", "a lost")
	ends := map[int]string{impl.RouteHome: "home", impl.RouteLost: "lost", impl.RouteLoop: "loop"}
	for _, net := range sampleNetworks() {
		script := "net " + writeNetwork(net) + "\n"
		for _, c := range []string{"1200107", "0000000", "9999999"} {
			path, end := routeByHand(net, net[0].Name, c)
			checkLast(t, script+"path "+net[0].Name+" "+c, strings.Join(path, " ")+" "+ends[end])
		}
		var faults []string
		for _, prefix := range impl.FaultyPrefixes(net, net[0].Name) {
			faults = append(faults, prefix+"*")
		}
		checkLast(t, script+"faults "+net[0].Name, strings.Join(append(faults, "-")[:max(1, len(faults))], " "))
	}
}

func TestNetworkLinesRefused(t *testing.T) {
	for _, line := range []string{
		"net ", "net a", "net a ", "net  a -", "net a - ", "net a -;", "net ;a -", "net here -", "net a >b", "net a -;a -", "net A -", "net a -; b -", "net a -;b -;c -;d -;e -;f -;g -;h -;i -",
		"path c 1200101", "path here 1200101", "path a 120010", "path a ", "path  1200101", "path  ", "path a x", "path A 1200101",
		"faults c", "faults here", "faults ", "faults A", "faults a*",
	} {
		checkRefused(t, someState, line, "no")
	}
}

func TestCodeLines(t *testing.T) {
	bars := "|...||..|.|||...||......||||...|...||.|..|"
	checkScript(t,
		"code 120-01-07", "1200107", "code 000-00-00", "0000000", "code 999-99-99", "9999999", "bars 1200107", bars, "bars 0000000", barsByHand("0000000"),
		"read "+bars, "1200107", "read x"+bars[1:41]+"x", "1200107", "read "+withGroup(bars, 3, "?????"), "1200107", "read "+withGroup(bars, 7, "....."), "1200107")
	for _, c := range sampleCodes() {
		checkScript(t, "code "+c[:3]+"-"+c[3:5]+"-"+c[5:], c, "bars "+c, barsByHand(c), "read "+barsByHand(c), c)
	}
	for _, line := range []string{
		"code 1200107", "code ", "code -", "code 120-01-7", "code 120-1-07", "code 1200-1-07", "code --", "code 120-01-07-", "bars 120010", "bars ", "bars 12001070", "bars x", "bars 120-01-07",
		"read ", "read " + bars[:41], "read " + bars + "|", "read " + withGroup(bars, 0, "..|.|"), "read " + withGroup(withGroup(bars, 0, "....."), 1, "....."), "read " + strings.Repeat("|", 42), "read 1200107",
	} {
		checkRefused(t, someState, line, "no")
	}
	// A space at the end of bars is not read as a bar: it ends the field.
	checkRefused(t, someState, "read "+bars[:41]+" ", "what")
}

// Lines with another number of fields than the table shows are none of its lines.
func TestNumbersOfFields(t *testing.T) {
	for count, words := range [][]string{noField, oneField, twoFields, threeFields} {
		for _, word := range words {
			for fields := range 6 {
				isText := slices.Contains(textWords, word)
				if fields == count || isText && fields > 0 {
					continue
				}
				for _, field := range []string{"0", "", "1200101", "a"} {
					checkRefused(t, someState, word+strings.Repeat(" "+field, fields), "what")
				}
			}
		}
	}
}

func TestOtherLines(t *testing.T) {
	for _, line := range []string{
		"foo", "foo ", "foo 1 2", " ", "  ", "   ", " letters", " day", "Letters", "LETTERS", "day.", "day\r", "day\t", "letters\t-", "letter -", "\x00", "\xff", "\u00e9", "letters\u00a0-", "-", "ok", "what", "no", "full", "#", "day;day", "trays\x00", "lettersx", "hel", "netto",
	} {
		checkRefused(t, someState, line, "what")
		checkRefused(t, "", line, "what")
	}
}

// A number counts as -1 if it is not written as Itoa does, or has more than 17 digits.
func TestNumbersInScripts(t *testing.T) {
	checkLast(t, someState+"size 20", "ok")
	checkLast(t, someState+"pass 0", "1:1200102 2:1200104 3:1200101 4:1200103 5:1200106")
	checkLast(t, someState+"fault 1 9999 0", "4:1200103 3:1200101 1:1200102")
	for _, n := range []string{"", "-", "+", "-0", "+0", "00", "01", "-01", "+1", "0x1", "1_0", "1.", "1e0", ".1", "1\r", "\u0661", "1x", "x1", "--1", "1-", "-1", "-5", "0000000000000000001",
		"99999999999999999", "-99999999999999999", "100000000000000000", "9223372036854775808", "18446744073709551616", "18446744073709551617", strings.Repeat("1", 400)} {
		for _, line := range []string{"pass " + n, "swap " + n + " 0", "swap 0 " + n, "loads " + n, "fault " + n + " 1 0", "fault 0 " + n + " 0", "fault 0 1 " + n, "size " + n} {
			checkRefused(t, someState, line, "no")
		}
	}
}

func TestLongScripts(t *testing.T) {
	for _, fill := range []string{"\n", "x", " ", "\xff", "day\n"} {
		if got := impl.RunScript(strings.Repeat(fill, 20001)[:20001]); got != "long\n" {
			t.Errorf("RunScript of 20001 bytes %q = %q", fill, got)
		}
	}
	if got := impl.RunScript(strings.Repeat("\n", 20000)); got != "" {
		t.Errorf("RunScript of empty lines = %q", got)
	}
	if got := impl.RunScript(strings.Repeat("x", 20000)); got != "what\n" {
		t.Errorf("RunScript of a long line = %q", got)
	}
	if got := impl.RunScript(strings.Repeat("x", 19996) + "\nday"); got != "what\n-/-/-/-\n" {
		t.Errorf("RunScript of 20000 bytes = %q", got)
	}
	if got := impl.RunScript(strings.Repeat("\u00e9", 10001)); got != "long\n" {
		t.Errorf("RunScript of 10001 runes = %q", got)
	}
	if got := impl.RunScript(strings.Repeat("x", 10000000)); got != "long\n" {
		t.Errorf("RunScript of many bytes = %q", got)
	}
}

func TestManyLines(t *testing.T) {
	for empty := range 101 {
		lines := strings.Repeat("\n", empty) + strings.Repeat("seal\n", 100-empty)
		want := strings.Repeat("0 0\n", 100-empty)
		for _, more := range []string{"", "\n", "\n\n\n", strings.Repeat("\n", 1000)} {
			if got := impl.RunScript(lines + more); got != want {
				t.Errorf("RunScript(%q) = %q", lines+more, got)
			}
			for _, last := range []string{"seal", "seal\n", "x", " ", "seal\nseal\nseal\n", "seal\n\nseal"} {
				if got := impl.RunScript(lines + more + last); got != want+"full\n" {
					t.Errorf("RunScript(%q) = %q", lines+more+last, got)
				}
			}
		}
	}
	if got := impl.RunScript(strings.Repeat("\n", 99) + "seal"); got != "0 0\n" {
		t.Errorf("RunScript of 99 empty lines and another one = %q", got)
	}
}

// lettersOf returns as many letters, whose Ids follow each other.
func lettersOf(first int, count int) []impl.Letter {
	var b []impl.Letter
	for i := range count {
		b = append(b, impl.Letter{Id: first + i, Code: "1200107"})
	}
	return b
}

// lineOf writes letters in so many bytes, with the newline behind them: each letter has 9 bytes and the digits of its Id.
func lineOf(size int) string {
	for ones := range 10 {
		for twos := range 3 {
			rest := size - 10*ones - 11*twos
			if rest >= 0 && rest%13 == 0 {
				return writeLetters(slices.Concat(lettersOf(1, ones), lettersOf(10, twos), lettersOf(1000, rest/13))) + "\n"
			}
		}
	}
	panic(size)
}

// greatOutput returns a script with an output of so many bytes, and this output.
func greatOutput(size int) (string, string) {
	line := lineOf(780)
	script, output := "letters "+line, line
	for size-len(output) > 780 {
		script += "letters\n"
		output += line
	}
	line = lineOf(size - len(output))
	return script + "letters " + line, output + line
}

func TestGreatOutput(t *testing.T) {
	for size := 39990; size <= 40010; size++ {
		script, output := greatOutput(size)
		if len(output) != size {
			t.Fatalf("the output has %d bytes, not %d", len(output), size)
		}
		if got := impl.RunScript(script); got != output {
			t.Fatalf("the output of %d bytes is %d bytes", size, len(got))
		}
		want := output + "0\n"
		if size > 40000 {
			want = output + "full\n"
		}
		for _, last := range []string{"count 9", "count 9\n", "\n\ncount 9\n\n"} {
			if got := impl.RunScript(script + last); got != want {
				t.Errorf("behind %d bytes of output, %q gives %q", size, last, got[len(output):])
			}
		}
		if got := impl.RunScript(script + "\n\n"); got != output {
			t.Errorf("behind %d bytes of output, empty lines give %q", size, got[len(output):])
		}
	}
}

// The line that makes the output too long is written to its end, and no other one is executed behind it.
func TestFullOutput(t *testing.T) {
	net := "a " + strings.Join(manyFaults(), " ")
	script := "net " + net + strings.Repeat("\nfaults a", 90)
	faults := strings.Join(impl.FaultyPrefixes(offices(net), "a"), "* ") + "*\n"
	want := "ok\n"
	for len(want) <= 40000 {
		want += faults
	}
	if got := impl.RunScript(script); got != want+"full\n" {
		t.Errorf("RunScript has %d bytes of output, not %d", len(got), len(want)+len("full\n"))
	}
}

// manyFaults returns rules that leave many faulty prefixes.
func manyFaults() []string {
	var list []string
	for i := range 20 {
		list = append(list, fmt.Sprintf("%d%d00000>here", i%10, i/10))
	}
	return list
}

// Neither earlier scripts nor others at the same time show in an output.
func TestScriptsKeepNoState(t *testing.T) {
	var group sync.WaitGroup
	for range 40 {
		group.Add(1)
		go func() {
			defer group.Done()
			if got := impl.RunScript(exampleScript); got != exampleOutput {
				t.Errorf("RunScript = %q", got)
			}
			if got := impl.RunScript("letters\nplan\nforwards\nheld\nnet\nday"); got != "-\n4 2 0000000\n-\n-\na -\n-/-/-/-\n" {
				t.Errorf("RunScript = %q", got)
			}
		}()
	}
	group.Wait()
}

// Each line of a script that is not empty has one line of output, whatever its bytes are.
func TestScriptsOfAnyBytes(t *testing.T) {
	d := dice(58)
	words := slices.Concat(noField, oneField, twoFields, threeFields, []string{"x", "", "\x00", "\xff\xfe"})
	parts := []string{" ", "  ", " -", " 0", " 1", " 1200107", " 1200101>1200102", " 1:1200107", " a", " a -", " >here", "\n", "\x80", " 2 2 1200101 1200102", " 9"}
	for range 3000 {
		var lines []string
		for range 1 + d.roll(20) {
			line := words[d.roll(len(words))]
			for range d.roll(4) {
				line += parts[d.roll(len(parts))]
			}
			lines = append(lines, line)
		}
		script := strings.Join(lines, "\n")
		count := 0
		for _, line := range strings.Split(script, "\n") {
			if line != "" {
				count++
			}
		}
		got := impl.RunScript(script)
		if strings.Count(got, "\n") != count || strings.HasPrefix(got, "\n") || strings.Contains(got, "\n\n") || !strings.HasSuffix("\n"+got, "\n") {
			t.Errorf("RunScript(%q) = %q", script, got)
		}
		if got != impl.RunScript(script) {
			t.Errorf("RunScript(%q) has different results", script)
		}
	}
}

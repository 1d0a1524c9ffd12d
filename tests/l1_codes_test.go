package tests

import (
	"fmt"
	"math"
	"strings"
	"testing"

	"loop.example/sortingoffice/impl"
)

// exampleBars are the bars of the code 1200107 in the document.
const exampleBars = "|...||..|.|||...||......||||...|...||.|..|"

// documentBars are the bars of the digits 1 to 9 and then 0, as the document lists them.
var documentBars = []string{"...||", "..|.|", "..||.", ".|..|", ".|.|.", ".||..", "|...|", "|..|.", "|.|..", "||..."}

// sampleCodes has codes with leading zeros, with equal digits and with all check digits.
func sampleCodes() []string {
	codes := []string{"0000000", "0000001", "0010203", "9999999", "1200107", "5555555", "1234567", "9876543"}
	for n := 0; n < 10000000; n += 76543 {
		codes = append(codes, fmt.Sprintf("%07d", n))
	}
	return codes
}

// barsByHand writes the bars of a code from the document's list alone.
func barsByHand(code string) string {
	sum, bars := 0, "|"
	for i := range len(code) {
		d := int(code[i] - '0')
		sum += d
		bars += documentBars[(d+9)%10]
	}
	return bars + documentBars[((10-sum%10)%10+9)%10] + "|"
}

// withGroup replaces one of the eight groups of bars.
func withGroup(bars string, group int, by string) string {
	start := 1 + 5*group
	return bars[:start] + by + bars[start+5:]
}

func checkReads(t *testing.T, bars string, code string, ok bool) {
	t.Helper()
	if c, o := impl.ReadBars(bars); c != code || o != ok {
		t.Errorf("ReadBars(%q) = %q, %v, not %q, %v", bars, c, o, code, ok)
	}
}

func checkRecovers(t *testing.T, bars string, code string, ok bool) {
	t.Helper()
	if c, o := impl.RecoverBars(bars); c != code || o != ok {
		t.Errorf("RecoverBars(%q) = %q, %v, not %q, %v", bars, c, o, code, ok)
	}
}

func checkEither(t *testing.T, bars string, code string, turned bool, ok bool) {
	t.Helper()
	if c, u, o := impl.ReadEither(bars); c != code || u != turned || o != ok {
		t.Errorf("ReadEither(%q) = %q, %v, %v, not %q, %v, %v", bars, c, u, o, code, turned, ok)
	}
}

func TestLimitsOfCodes(t *testing.T) {
	if impl.CodeSize != 7 || impl.MaxDigits != 20 {
		t.Error("limits", impl.CodeSize, impl.MaxDigits)
	}
}

func TestDigitsValid(t *testing.T) {
	for _, s := range []string{"", "0", "9", "0123456789", strings.Repeat("0", 20), strings.Repeat("9", 20)} {
		if !impl.DigitsValid(s) {
			t.Errorf("DigitsValid(%q) is false", s)
		}
	}
	for _, s := range []string{strings.Repeat("0", 21), strings.Repeat("9", 100000), "/", ":", "a", " 1", "1 ", "-1", "+1", "1.0", "12\n", "\x00", "\xff", "1\x802", "\u0663", "\uff11\uff12"} {
		if impl.DigitsValid(s) {
			t.Errorf("DigitsValid(%q) is true", s)
		}
	}
}

func TestCodeValid(t *testing.T) {
	for _, c := range sampleCodes() {
		if !impl.CodeValid(c) {
			t.Errorf("CodeValid(%q) is false", c)
		}
	}
	for _, c := range []string{"", "120010", "12001070", "120010x", "x200107", "120-107", " 200107", "-200107", "12001\xff7", "12345\u0663", strings.Repeat("1", 14)} {
		if impl.CodeValid(c) {
			t.Errorf("CodeValid(%q) is true", c)
		}
	}
}

func invalidPlaces() []impl.Place {
	return []impl.Place{
		{Area: -1}, {Walk: -1}, {Point: -1},
		{Area: 1000}, {Walk: 100}, {Point: 100},
		{Area: math.MaxInt}, {Walk: math.MaxInt}, {Point: math.MaxInt},
		{Area: math.MinInt}, {Walk: math.MinInt}, {Point: math.MinInt},
		{Area: 120, Walk: 1, Point: 107}, {Area: 120, Walk: 107, Point: 1}, {Area: -120, Walk: 1, Point: 7},
	}
}

func TestInvalidPlaces(t *testing.T) {
	for _, p := range invalidPlaces() {
		if impl.PlaceValid(p) {
			t.Errorf("PlaceValid(%v) is true", p)
		}
		if c, ok := impl.CodeOf(p); c != "" || ok {
			t.Errorf("CodeOf(%v) = %q, %v", p, c, ok)
		}
		if s := impl.FormatPlace(p); s != "" {
			t.Errorf("FormatPlace(%v) = %q", p, s)
		}
	}
}

func checkPlace(t *testing.T, p impl.Place) {
	t.Helper()
	code := fmt.Sprintf("%03d%02d%02d", p.Area, p.Walk, p.Point)
	text := fmt.Sprintf("%03d-%02d-%02d", p.Area, p.Walk, p.Point)
	if !impl.PlaceValid(p) {
		t.Errorf("PlaceValid(%v) is false", p)
	}
	if c, ok := impl.CodeOf(p); c != code || !ok {
		t.Errorf("CodeOf(%v) = %q, %v", p, c, ok)
	}
	if x, ok := impl.PlaceOf(code); x != p || !ok {
		t.Errorf("PlaceOf(%q) = %v, %v", code, x, ok)
	}
	if s := impl.FormatPlace(p); s != text {
		t.Errorf("FormatPlace(%v) = %q", p, s)
	}
	if x, ok := impl.ParsePlace(text); x != p || !ok {
		t.Errorf("ParsePlace(%q) = %v, %v", text, x, ok)
	}
}

func TestPlaces(t *testing.T) {
	checkPlace(t, impl.Place{Area: 120, Walk: 1, Point: 7})
	checkPlace(t, impl.Place{})
	checkPlace(t, impl.Place{Area: 999, Walk: 99, Point: 99})
	for area := range 1000 {
		checkPlace(t, impl.Place{Area: area, Walk: area % 100, Point: 99 - area/10})
	}
	for n := range 100 {
		checkPlace(t, impl.Place{Area: 5, Walk: n, Point: 3})
		checkPlace(t, impl.Place{Area: 5, Walk: 3, Point: n})
	}
}

func TestPlaceOfInvalid(t *testing.T) {
	for _, c := range []string{"", "120010", "12001070", "120010x", "120-107", "-200107", "120-01-07", "12001\xff7", "1200 07"} {
		if p, ok := impl.PlaceOf(c); p != (impl.Place{}) || ok {
			t.Errorf("PlaceOf(%q) = %v, %v", c, p, ok)
		}
	}
}

func TestParsePlaceInvalid(t *testing.T) {
	texts := []string{
		"", "-", "--", "1200107", "12-001-07", "120-0107", "12001-07", "120-01-7", "120-1-07", "20-01-07",
		"120-01-070", "0120-01-07", "120--01-07", "120-01--07", "-120-01-07", "120-01-07-", "120 01-07", "120-01 07",
		" 120-01-07", "120-01-07 ", "120-01-07\n", "12a-01-07", "120-0a-07", "120-01-0a", "120-01-\xff7",
		"120-0-107", "1-20-01-07", "120-010-7", "1-2-0010-7", "120_01_07", "-12-01-07", "120--1-07",
	}
	for _, s := range texts {
		if p, ok := impl.ParsePlace(s); p != (impl.Place{}) || ok {
			t.Errorf("ParsePlace(%q) = %v, %v", s, p, ok)
		}
	}
}

func TestCheckDigit(t *testing.T) {
	for d := range 10 {
		if got := impl.CheckDigit(string(rune('0' + d))); got != (10-d)%10 {
			t.Errorf("CheckDigit of %d = %d", d, got)
		}
	}
	known := map[string]int{"": 0, "0": 0, "00": 0, "1200107": 9, "0000001": 9, "55": 0, "19": 0, "99999": 5, strings.Repeat("9", 20): 0, strings.Repeat("7", 19): 7}
	for s, want := range known {
		if got := impl.CheckDigit(s); got != want {
			t.Errorf("CheckDigit(%q) = %d, not %d", s, got, want)
		}
	}
	for _, s := range []string{"x", "1 ", "-1", "12\xff", "\u0663", strings.Repeat("0", 21)} {
		if got := impl.CheckDigit(s); got != -1 {
			t.Errorf("CheckDigit(%q) = %d", s, got)
		}
	}
}

func TestCheckValid(t *testing.T) {
	for _, c := range sampleCodes() {
		for d := range 10 {
			s := c + string(rune('0'+d))
			if impl.CheckValid(s) != (d == impl.CheckDigit(c)) {
				t.Errorf("CheckValid(%q) = %v", s, impl.CheckValid(s))
			}
		}
	}
	for _, s := range []string{"0", "00", "55", "19", "12001079", strings.Repeat("5", 20)} {
		if !impl.CheckValid(s) {
			t.Errorf("CheckValid(%q) is false", s)
		}
	}
	for _, s := range []string{"", "1", "5", "12001078", "x", "5 5", "55\xff", strings.Repeat("0", 21), strings.Repeat("5", 22)} {
		if impl.CheckValid(s) {
			t.Errorf("CheckValid(%q) is true", s)
		}
	}
}

func TestDigitBars(t *testing.T) {
	for i, want := range documentBars {
		d := (i + 1) % 10
		if got := impl.DigitBars(d); got != want {
			t.Errorf("DigitBars(%d) = %q, not %q", d, got, want)
		}
		if got := impl.BarsDigit(want); got != d {
			t.Errorf("BarsDigit(%q) = %d, not %d", want, got, d)
		}
	}
	for _, d := range []int{-1, 10, 11, 255, 256, math.MinInt, math.MaxInt} {
		if got := impl.DigitBars(d); got != "" {
			t.Errorf("DigitBars(%d) = %q", d, got)
		}
	}
}

func TestBarsDigitInvalid(t *testing.T) {
	read := 0
	for pattern := range 32 {
		bars := strings.NewReplacer("0", ".", "1", "|").Replace(fmt.Sprintf("%05b", pattern))
		d := impl.BarsDigit(bars)
		if d < -1 || d > 9 || (d >= 0) != (strings.Count(bars, "|") == 2) {
			t.Errorf("BarsDigit(%q) = %d", bars, d)
		}
		if d >= 0 {
			read++
		}
	}
	if read != 10 {
		t.Errorf("%d patterns are digits", read)
	}
	for _, bars := range []string{"", "|", "...|", "...||.", "....||", "...|| ", "     ", "?????", "...|\xff", "00011", "||...||..."} {
		if d := impl.BarsDigit(bars); d != -1 {
			t.Errorf("BarsDigit(%q) = %d", bars, d)
		}
	}
}

func TestExampleBars(t *testing.T) {
	if b, ok := impl.BarsOf("1200107"); b != exampleBars || !ok {
		t.Errorf("BarsOf = %q, %v", b, ok)
	}
	checkReads(t, exampleBars, "1200107", true)
	checkRecovers(t, exampleBars, "1200107", true)
	checkEither(t, exampleBars, "1200107", false, true)
}

func TestBarsOf(t *testing.T) {
	for _, c := range sampleCodes() {
		if b, ok := impl.BarsOf(c); b != barsByHand(c) || !ok {
			t.Errorf("BarsOf(%q) = %q, %v", c, b, ok)
		}
	}
	for _, c := range []string{"", "120010", "12001070", "120010x", "120-107", "12001\xff7", exampleBars} {
		if b, ok := impl.BarsOf(c); b != "" || ok {
			t.Errorf("BarsOf(%q) = %q, %v", c, b, ok)
		}
	}
}

func TestReadBars(t *testing.T) {
	for _, c := range sampleCodes() {
		checkReads(t, barsByHand(c), c, true)
	}
	b := exampleBars
	for _, bad := range []string{"", "|", b[1:], b[:41], b + "|", "|" + b, b + b, b[:6] + b[11:], b[:6] + "...||" + b[6:], strings.Repeat("|", 42), strings.Repeat(".", 42), strings.Repeat("\xff", 42), "1200107"} {
		checkReads(t, bad, "", false)
	}
}

// A changed bar leaves one or three long bars in a group, or a short one at an end.
func TestChangedBarIsNoticed(t *testing.T) {
	for _, c := range sampleCodes() {
		b := barsByHand(c)
		for i := range len(b) {
			other := "|"
			if b[i] == '|' {
				other = "."
			}
			for _, bar := range []string{other, "?", "\xff", "\x00"} {
				changed := b[:i] + bar + b[i+1:]
				checkReads(t, changed, "", false)
				checkRecovers(t, changed, c, true)
			}
		}
	}
}

// A digit with the bars of another one is noticed by the sum alone.
func TestChangedDigitIsNoticed(t *testing.T) {
	for _, c := range sampleCodes() {
		b := barsByHand(c)
		for group := range 8 {
			for _, bars := range documentBars {
				changed := withGroup(b, group, bars)
				if changed == b {
					continue
				}
				checkReads(t, changed, "", false)
				checkRecovers(t, changed, "", false)
			}
		}
	}
}

func TestTurnBars(t *testing.T) {
	known := map[string]string{"": "", "|": "|", "|..": "..|", ".||": "||.", "ab cd": "dc ba", "a\xff\x00": "\x00\xffa", "\u00e9": "\xa9\xc3"}
	for s, want := range known {
		if got := impl.TurnBars(s); got != want {
			t.Errorf("TurnBars(%q) = %q, not %q", s, got, want)
		}
	}
	long := strings.Repeat("|..", 1000)
	if got := impl.TurnBars(long); got != strings.Repeat("..|", 1000) {
		t.Error("TurnBars of a long string")
	}
	for _, c := range sampleCodes() {
		b := barsByHand(c)
		if got := impl.TurnBars(impl.TurnBars(b)); got != b {
			t.Errorf("TurnBars twice of %q = %q", b, got)
		}
	}
}

func TestReadEither(t *testing.T) {
	one := 0
	for _, c := range sampleCodes() {
		b := barsByHand(c)
		back := impl.TurnBars(b)
		if _, both := impl.ReadBars(back); both {
			checkEither(t, b, "", false, false)
			checkEither(t, back, "", false, false)
			continue
		}
		one++
		checkEither(t, b, c, false, true)
		checkEither(t, back, c, true, true)
	}
	if one == 0 {
		t.Error("all bars can be read from both sides")
	}
}

func TestReadEitherBothSides(t *testing.T) {
	same := barsByHand("5555555")
	if impl.TurnBars(same) != same {
		t.Fatal("the bars of 5555555 are not the same from both sides")
	}
	checkEither(t, same, "", false, false)
	checkReads(t, same, "5555555", true)
	two := barsByHand("4877775")
	checkReads(t, two, "4877775", true)
	checkReads(t, impl.TurnBars(two), "5577774", true)
	checkEither(t, two, "", false, false)
	checkEither(t, impl.TurnBars(two), "", false, false)
}

func TestReadEitherNeitherSide(t *testing.T) {
	b := exampleBars
	for _, bad := range []string{"", "x", b[1:], b + "|", "." + b[1:], b[:41] + ".", withGroup(b, 2, "|||.."), withGroup(b, 7, "...||"), impl.TurnBars("." + b[1:]), strings.Repeat("\xff", 42)} {
		checkEither(t, bad, "", false, false)
	}
}

func TestRecoverBars(t *testing.T) {
	for _, c := range sampleCodes() {
		b := barsByHand(c)
		checkRecovers(t, b, c, true)
		for group := range 8 {
			for _, bars := range []string{"?????", ".....", "|||||", "....|", "|||..", "\xff\xfe\xfd\x00|"} {
				checkRecovers(t, withGroup(b, group, bars), c, true)
			}
		}
	}
}

func TestRecoverBarsEnds(t *testing.T) {
	b := exampleBars
	for _, end := range []string{".", "|", "x", " ", "\x00", "\xff"} {
		ends := end + b[1:41] + end
		checkRecovers(t, ends, "1200107", true)
		checkRecovers(t, withGroup(ends, 7, "....."), "1200107", true)
		checkRecovers(t, withGroup(ends, 7, "...||"), "", false)
	}
}

// What cannot be read may have been any digit, so that its bars may give another code than the printed one.
func TestRecoverBarsTrustsTheOtherDigits(t *testing.T) {
	b := withGroup(exampleBars, 0, "..|.|")
	checkRecovers(t, b, "", false)
	checkRecovers(t, withGroup(b, 7, "....."), "2200107", true)
	checkRecovers(t, withGroup(b, 1, "....."), "2100107", true)
}

func TestRecoverBarsTwoUnread(t *testing.T) {
	for _, c := range []string{"0000000", "1200107", "9999999"} {
		b := barsByHand(c)
		for first := range 8 {
			for second := range first {
				checkRecovers(t, withGroup(withGroup(b, first, "....."), second, "....."), "", false)
			}
		}
	}
	checkRecovers(t, strings.Repeat("|", 42), "", false)
	checkRecovers(t, strings.Repeat("?", 42), "", false)
}

func TestRecoverBarsSize(t *testing.T) {
	b := exampleBars
	checkRecovers(t, b[:40]+"\u00e9", "1200107", true)
	for _, bad := range []string{"", "|", b[1:], b[:41], b[1:41], b + "|", "|" + b, b + b, b[:39] + "\u00e9", b[:41] + "\u00e9", "\u00e9" + b[1:]} {
		checkRecovers(t, bad, "", false)
	}
}

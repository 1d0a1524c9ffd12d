package impl

import (
	"slices"
	"strconv"
	"strings"
)

// Sizes of codes, and limits of digits.
const (
	CodeSize  = 7
	MaxDigits = 20
)

// Greatest numbers of the parts of a place, and their digits in a code.
const (
	maxArea   = 999
	maxWalk   = 99
	maxPoint  = 99
	areaSize  = 3
	walkSize  = 2
	pointSize = 2
	walkEnd   = areaSize + walkSize
)

// Bars of a code: a group for each digit and for the check digit, between two long bars.
const (
	longBar    = "|"
	groupSize  = 5
	groupCount = CodeSize + 1
	barsSize   = groupCount*groupSize + 2*len(longBar)
)

// checkDigits has, for each last digit of a sum, the digit that completes it.
var checkDigits = [10]int{0, 9, 8, 7, 6, 5, 4, 3, 2, 1}

// barsTable has the bars of each digit.
var barsTable = [10]string{"||...", "...||", "..|.|", "..||.", ".|..|", ".|.|.", ".||..", "|...|", "|..|.", "|.|.."}

// A Place has the number of an area, of a walk in it, and of a delivery point.
type Place struct {
	Area  int
	Walk  int
	Point int
}

// DigitsValid reports whether a string has only digits, and not too many.
func DigitsValid(s string) bool {
	if len(s) > MaxDigits {
		return false
	}
	for _, r := range s {
		if r < '0' || r > '9' {
			return false
		}
	}
	return true
}

// CodeValid reports whether a string is a code.
func CodeValid(c string) bool { return len(c) == CodeSize && DigitsValid(c) }

// PlaceValid reports whether a place is valid.
func PlaceValid(p Place) bool {
	return within(p.Area, maxArea) && within(p.Walk, maxWalk) && within(p.Point, maxPoint)
}

func within(n int, greatest int) bool { return n >= 0 && n <= greatest }

// CodeOf returns the code of a place.
func CodeOf(p Place) (string, bool) {
	if !PlaceValid(p) {
		return "", false
	}
	return padded(p.Area, areaSize) + padded(p.Walk, walkSize) + padded(p.Point, pointSize), true
}

// padded returns a number of at most size digits, with leading zeros.
func padded(n int, size int) string {
	text := strconv.Itoa(n)
	return strings.Repeat("0", size-len(text)) + text
}

// PlaceOf returns the place of a code.
func PlaceOf(c string) (Place, bool) {
	if !CodeValid(c) {
		return Place{}, false
	}
	return Place{
		Area:  numberOf(c[:areaSize]),
		Walk:  numberOf(c[areaSize:walkEnd]),
		Point: numberOf(c[walkEnd:]),
	}, true
}

// numberOf returns the number that digits write.
func numberOf(s string) int {
	n := 0
	for _, r := range s {
		n = 10*n + digitOf(r)
	}
	return n
}

func digitOf(r rune) int { return int(r - '0') }

// FormatPlace returns the text of a place.
func FormatPlace(p Place) string {
	c, ok := CodeOf(p)
	if !ok {
		return ""
	}
	return c[:areaSize] + "-" + c[areaSize:walkEnd] + "-" + c[walkEnd:]
}

// ParsePlace parses the text of a place.
func ParsePlace(t string) (Place, bool) {
	p, ok := PlaceOf(strings.ReplaceAll(t, "-", ""))
	// The digits alone do not tell where the separators stood.
	if !ok || FormatPlace(p) != t {
		return Place{}, false
	}
	return p, true
}

// CheckDigit returns the digit that completes digits.
func CheckDigit(s string) int {
	if !DigitsValid(s) {
		return -1
	}
	sum := 0
	for _, r := range s {
		sum += digitOf(r)
	}
	return completing(sum)
}

// completing returns the digit that makes a sum a multiple of 10.
func completing(sum int) int { return checkDigits[sum%len(checkDigits)] }

// CheckValid reports whether digits with their check digit are complete.
func CheckValid(s string) bool { return s != "" && CheckDigit(s) == 0 }

// DigitBars returns the five bars of a digit.
func DigitBars(d int) string {
	if !within(d, len(barsTable)-1) {
		return ""
	}
	return barsTable[d]
}

// BarsDigit returns the digit with five bars.
func BarsDigit(b string) int {
	for d, bars := range barsTable {
		if bars == b {
			return d
		}
	}
	return -1
}

// BarsOf returns the bars of a code.
func BarsOf(c string) (string, bool) {
	if !CodeValid(c) {
		return "", false
	}
	bars := longBar
	for _, r := range c {
		bars += DigitBars(digitOf(r))
	}
	return bars + DigitBars(CheckDigit(c)) + longBar, true
}

// ReadBars returns the code with some bars.
func ReadBars(b string) (string, bool) {
	c, ok := RecoverBars(b)
	if !ok {
		return "", false
	}
	// A recovered code may have other bars than those that were read.
	if bars, _ := BarsOf(c); bars != b {
		return "", false
	}
	return c, true
}

// TurnBars returns bars that are read from the other side.
func TurnBars(b string) string {
	turned := []byte(b)
	slices.Reverse(turned)
	return string(turned)
}

// ReadEither returns the code with bars that may be upside down.
func ReadEither(b string) (string, bool, bool) {
	upright, uprightOk := ReadBars(b)
	turned, turnedOk := ReadBars(TurnBars(b))
	// Bars that can be read from both sides do not tell which code is meant.
	if uprightOk == turnedOk {
		return "", false, false
	}
	if turnedOk {
		return turned, true, true
	}
	return upright, false, true
}

// RecoverBars returns the code with bars of which a digit can't be read.
func RecoverBars(b string) (string, bool) {
	if len(b) != barsSize {
		return "", false
	}
	digits := readGroups(b)
	sum, unread := 0, -1
	for i, d := range digits {
		if d >= 0 {
			sum += d
			continue
		}
		if unread >= 0 {
			return "", false
		}
		unread = i
	}
	missing := completing(sum)
	if unread >= 0 {
		digits[unread] = missing
	} else if missing != 0 {
		return "", false
	}
	return codeOfDigits(digits), true
}

// readGroups returns the digits of all groups, with -1 for each one that is not the bars of a digit.
func readGroups(b string) [groupCount]int {
	var digits [groupCount]int
	for i := range digits {
		start := len(longBar) + i*groupSize
		digits[i] = BarsDigit(b[start : start+groupSize])
	}
	return digits
}

// codeOfDigits leaves out the check digit, which is the last one.
func codeOfDigits(digits [groupCount]int) string {
	code := ""
	for _, d := range digits[:CodeSize] {
		code += strconv.Itoa(d)
	}
	return code
}

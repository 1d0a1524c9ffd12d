package tests

import (
	"fmt"
	"math"
	"slices"
	"strings"
	"testing"

	"loop.example/sortingoffice/impl"
)

// exampleBatch is the batch of the document's example.
const exampleBatch = "1:1200107 2:1200103 3:1200007"

// stableByHand sorts letters by inserting each one behind all that do not come after it.
func stableByHand(b []impl.Letter) []impl.Letter {
	var sorted []impl.Letter
	for _, l := range b {
		at := len(sorted)
		for at > 0 && sorted[at-1].Code > l.Code {
			at--
		}
		sorted = slices.Insert(sorted, at, l)
	}
	return sorted
}

// sampleBatches has batches of all sizes from none to the greatest.
func sampleBatches() [][]impl.Letter {
	d := dice(2)
	list := [][]impl.Letter{nil, {}, batch(exampleBatch), manyLetters(60), batch("1:0000000 9999:9999999")}
	for size := range impl.MaxBatch + 1 {
		list = append(list, someBatch(&d, size), someBatch(&d, size))
	}
	return list
}

// passesOf returns the letters after a pass for each digit, from the last one to the first one.
func passesOf(t *testing.T, b []impl.Letter) []impl.Letter {
	t.Helper()
	for digit := 6; digit >= 0; digit-- {
		var ok bool
		if b, ok = impl.SortPass(b, digit); !ok {
			t.Fatalf("SortPass(%v, %d) is false", b, digit)
		}
	}
	return b
}

func TestLimitsOfBatches(t *testing.T) {
	if impl.MaxBatch != 60 || impl.MaxLetter != 9999 {
		t.Error("limits", impl.MaxBatch, impl.MaxLetter)
	}
}

func TestBatchValid(t *testing.T) {
	for _, b := range sampleBatches() {
		if !impl.BatchValid(b) {
			t.Errorf("BatchValid(%v) is false", b)
		}
	}
	for _, b := range invalidBatches() {
		if impl.BatchValid(b) {
			t.Errorf("BatchValid(%v) is true", b)
		}
	}
}

// Each function of the chapter has a result of its own for letters that are no batch.
func TestInvalidBatches(t *testing.T) {
	for _, b := range invalidBatches() {
		if s := impl.FormatBatch(b); s != "" {
			t.Errorf("FormatBatch(%v) = %q", b, s)
		}
		for _, id := range []int{0, 1, 5, b[0].Id} {
			if i := impl.FindLetter(b, id); i != -1 {
				t.Errorf("FindLetter(%v, %d) = %d", b, id, i)
			}
		}
		if bins, ok := impl.BinPass(b, 0); len(bins) != 0 || ok {
			t.Errorf("BinPass(%v) = %v, %v", b, bins, ok)
		}
		if impl.SortedBatch(b) {
			t.Errorf("SortedBatch(%v) is true", b)
		}
		if v := impl.VaryingDigits(b); len(v) != 0 {
			t.Errorf("VaryingDigits(%v) = %v", b, v)
		}
		if n := impl.Inversions(b); n != -1 {
			t.Errorf("Inversions(%v) = %d", b, n)
		}
		if with, without, ok := impl.SplitBatch(b, ""); len(with) != 0 || len(without) != 0 || ok {
			t.Errorf("SplitBatch(%v) = %v, %v, %v", b, with, without, ok)
		}
		if n := impl.CountPrefix(b, ""); n != -1 {
			t.Errorf("CountPrefix(%v) = %d", b, n)
		}
		if codes := impl.CodesOf(b); len(codes) != 0 {
			t.Errorf("CodesOf(%v) = %v", b, codes)
		}
		for what, sort := range sortings(b) {
			if x, ok := sort(); len(x) != 0 || ok {
				t.Errorf("%s of %v = %v, %v", what, b, x, ok)
			}
		}
	}
}

// sortings has the functions that return false and no letters if the batch b is none.
func sortings(b []impl.Letter) map[string]func() ([]impl.Letter, bool) {
	return map[string]func() ([]impl.Letter, bool){
		"CollectBins":            func() ([]impl.Letter, bool) { return impl.CollectBins([][]impl.Letter{nil, b, nil}) },
		"SortPass":               func() ([]impl.Letter, bool) { return impl.SortPass(b, 6) },
		"SortBatch":              func() ([]impl.Letter, bool) { return impl.SortBatch(b) },
		"SortShort":              func() ([]impl.Letter, bool) { return impl.SortShort(b) },
		"MergeBatches, first":    func() ([]impl.Letter, bool) { return impl.MergeBatches(b, nil) },
		"MergeBatches, second":   func() ([]impl.Letter, bool) { return impl.MergeBatches(nil, b) },
		"MergeBatches with ones": func() ([]impl.Letter, bool) { return impl.MergeBatches(batch("77:1200107"), b) },
	}
}

func TestFormatBatch(t *testing.T) {
	for _, b := range sampleBatches() {
		var items []string
		for _, l := range b {
			items = append(items, fmt.Sprintf("%d:%s", l.Id, l.Code))
		}
		text := strings.Join(items, " ")
		if len(b) == 0 {
			text = "-"
		}
		if got := impl.FormatBatch(b); got != text {
			t.Errorf("FormatBatch(%v) = %q, not %q", b, got, text)
		}
		got, ok := impl.ParseBatch(text)
		if !ok {
			t.Errorf("ParseBatch(%q) is false", text)
		}
		checkLetters(t, "ParseBatch of "+text, got, b)
	}
}

func TestParseBatchInvalid(t *testing.T) {
	texts := []string{
		"", " ", "--", "- ", " -", "- -", "-\n", "1", ":", "1:", ":1200107", "1:120010", "1:12001070", "1:120010x",
		"0:1200107", "-1:1200107", "+1:1200107", "01:1200107", "1_0:1200107", "0x1:1200107", "1.0:1200107", "-0:1200107",
		"10000:1200107", "99999999999999999999:1200107", "-99999999999999999999:1200107", "x:1200107", "1 :1200107",
		"1: 1200107", "1::1200107", "1:1200107:", "1;1200107", " 1:1200107", "1:1200107 ", "1:1200107\n", "1:1200107 -",
		"- 1:1200107", "1:1200107  2:1200103", "1:1200107\t2:1200103", "1:1200107\n2:1200103", "1:1200107,2:1200103",
		"1:1200107 1:1200107", "1:1200107 2:1200103 1:1200007", "1:1200107 2", "1:12001\xff7", "1:120-01-07", "\u0661:1200107",
	}
	var many []string
	for i := range 61 {
		many = append(many, fmt.Sprintf("%d:1200107", i+1))
	}
	texts = append(texts, strings.Join(many, " "), strings.Repeat(" ", 100000), strings.Repeat("1:1200107 ", 10000))
	for _, text := range texts {
		if b, ok := impl.ParseBatch(text); len(b) != 0 || ok {
			t.Errorf("ParseBatch(%q) = %v, %v", text, b, ok)
		}
	}
	if b, ok := impl.ParseBatch(strings.Join(many[:60], " ")); len(b) != 60 || !ok {
		t.Errorf("ParseBatch of 60 letters = %v, %v", b, ok)
	}
}

func TestFindLetter(t *testing.T) {
	for _, b := range sampleBatches() {
		for i, l := range b {
			if got := impl.FindLetter(b, l.Id); got != i {
				t.Errorf("FindLetter(%v, %d) = %d, not %d", b, l.Id, got, i)
			}
		}
		for _, id := range []int{0, -1, 10000, math.MinInt, math.MaxInt} {
			if got := impl.FindLetter(b, id); got != -1 {
				t.Errorf("FindLetter(%v, %d) = %d", b, id, got)
			}
		}
	}
	if got := impl.FindLetter(batch(exampleBatch), 4); got != -1 {
		t.Errorf("FindLetter = %d", got)
	}
}

func TestBinPass(t *testing.T) {
	for _, b := range sampleBatches() {
		for digit := range 7 {
			bins, ok := impl.BinPass(b, digit)
			if len(bins) != 10 || !ok {
				t.Fatalf("BinPass(%v, %d) = %v, %v", b, digit, bins, ok)
			}
			var all []impl.Letter
			for d, bin := range bins {
				want := slices.DeleteFunc(slices.Clone(b), func(l impl.Letter) bool { return int(l.Code[digit]-'0') != d })
				checkLetters(t, fmt.Sprintf("BinPass(%v, %d), bin %d", b, digit, d), bin, want)
				all = append(all, want...)
			}
			collected, ok := impl.CollectBins(bins)
			if !ok {
				t.Errorf("CollectBins(%v) is false", bins)
			}
			checkLetters(t, "CollectBins", collected, all)
			passed, ok := impl.SortPass(b, digit)
			if !ok {
				t.Errorf("SortPass(%v, %d) is false", b, digit)
			}
			checkLetters(t, "SortPass", passed, all)
		}
	}
}

func TestNoSuchDigit(t *testing.T) {
	for _, b := range [][]impl.Letter{nil, batch(exampleBatch), manyLetters(60)} {
		for _, digit := range []int{-1, 7, 8, 10, math.MinInt, math.MaxInt} {
			if bins, ok := impl.BinPass(b, digit); len(bins) != 0 || ok {
				t.Errorf("BinPass(%v, %d) = %v, %v", b, digit, bins, ok)
			}
			if x, ok := impl.SortPass(b, digit); len(x) != 0 || ok {
				t.Errorf("SortPass(%v, %d) = %v, %v", b, digit, x, ok)
			}
		}
	}
}

func TestCollectBins(t *testing.T) {
	for _, bins := range [][][]impl.Letter{nil, {}, {nil}, make([][]impl.Letter, 60)} {
		if b, ok := impl.CollectBins(bins); len(b) != 0 || !ok {
			t.Errorf("CollectBins(%v) = %v, %v", bins, b, ok)
		}
	}
	full := make([][]impl.Letter, 60)
	for i, l := range manyLetters(60) {
		full[i] = []impl.Letter{l}
	}
	b, ok := impl.CollectBins(full)
	if !ok {
		t.Error("CollectBins of 60 bins is false")
	}
	checkLetters(t, "CollectBins of 60 bins", b, manyLetters(60))
	for _, bins := range [][][]impl.Letter{
		make([][]impl.Letter, 61),
		append(make([][]impl.Letter, 60), batch(exampleBatch)),
		{manyLetters(60), batch("61:1200107")},
		{batch("1:1200107"), batch("1:1200103")},
		{manyLetters(60), manyLetters(60), manyLetters(60)},
	} {
		if b, ok := impl.CollectBins(bins); len(b) != 0 || ok {
			t.Errorf("CollectBins(%v) = %v, %v", bins, b, ok)
		}
	}
}

// Promise 2: passes from the last digit to the first one sort, and equal codes stay in order.
func TestPassesSort(t *testing.T) {
	for _, b := range sampleBatches() {
		want := stableByHand(b)
		checkLetters(t, fmt.Sprintf("passes of %v", b), passesOf(t, b), want)
		sorted, ok := impl.SortBatch(b)
		short, shortOk := impl.SortShort(b)
		if !ok || !shortOk {
			t.Errorf("SortBatch and SortShort of %v are %v and %v", b, ok, shortOk)
		}
		checkLetters(t, fmt.Sprintf("SortBatch(%v)", b), sorted, want)
		checkLetters(t, fmt.Sprintf("SortShort(%v)", b), short, want)
		if !impl.SortedBatch(want) || impl.SortedBatch(b) != slices.Equal(b, want) {
			t.Errorf("SortedBatch of %v or %v", b, want)
		}
	}
}

func TestEqualCodesStayInOrder(t *testing.T) {
	b := batch("9:1200103 2:1200101 7:1200103 1:1200101 8:1200102 3:1200103 5:1200101")
	want := "2 1 5 8 9 7 3"
	sorted, _ := impl.SortBatch(b)
	short, _ := impl.SortShort(b)
	for what, got := range map[string][]impl.Letter{"passes": passesOf(t, b), "SortBatch": sorted, "SortShort": short} {
		if idsOf(got) != want {
			t.Errorf("%s = %v", what, got)
		}
	}
	checkLetters(t, "SortShort of equal codes", passesOf(t, manyLetters(60)), manyLetters(60))
}

func TestExampleBatch(t *testing.T) {
	b := batch(exampleBatch)
	if v := impl.VaryingDigits(b); !slices.Equal(v, []int{4, 6}) {
		t.Errorf("VaryingDigits = %v", v)
	}
	b, _ = impl.SortPass(b, 6)
	if idsOf(b) != "2 1 3" {
		t.Errorf("SortPass for 6 = %v", b)
	}
	b, _ = impl.SortPass(b, 4)
	if idsOf(b) != "3 2 1" {
		t.Errorf("SortPass for 4 = %v", b)
	}
	if short, ok := impl.SortShort(batch(exampleBatch)); idsOf(short) != "3 2 1" || !ok {
		t.Errorf("SortShort = %v, %v", short, ok)
	}
}

func TestVaryingDigits(t *testing.T) {
	cases := map[string][]int{
		"":                                nil,
		"1:1200107":                       nil,
		"1:1200107 2:1200107 3:1200107":   nil,
		"1:0000000 2:1111111":             {0, 1, 2, 3, 4, 5, 6},
		"1:1200107 2:1200108":             {6},
		"1:1200107 2:2200107":             {0},
		"1:1200107 2:1200107 3:1290107":   {2},
		"1:1200107 2:1200907 3:1200107":   {4},
		"1:1000000 2:0000000 3:1000001":   {0, 6},
		"1:0000000 2:0100000 3:0001000":   {1, 3},
		"1:1234567 2:7654321 3:4444444":   {0, 1, 2, 4, 5, 6},
		"1:0000000 2:0000010 3:0000010":   {5},
		"10:0000001 2:0000001 30:0010001": {2},
	}
	for text, want := range cases {
		if got := impl.VaryingDigits(batch(text)); !slices.Equal(got, want) {
			t.Errorf("VaryingDigits of %q = %v, not %v", text, got, want)
		}
	}
}

func TestSortedBatch(t *testing.T) {
	for _, text := range []string{"", "9:1200107", "9:1200107 1:1200107", "9:0000000 8:0000001 7:0000001 1:9999999"} {
		if !impl.SortedBatch(batch(text)) {
			t.Errorf("SortedBatch of %q is false", text)
		}
	}
	for _, text := range []string{exampleBatch, "1:0000001 2:0000000", "1:0000000 2:0000002 3:0000001", "1:1000000 2:0999999", "1:0000001 2:0000001 3:0000000"} {
		if impl.SortedBatch(batch(text)) {
			t.Errorf("SortedBatch of %q is true", text)
		}
	}
}

func TestInversions(t *testing.T) {
	cases := map[string]int{
		"":                              0,
		"1:1200107":                     0,
		"1:1200107 2:1200107":           0,
		"1:1200107 2:1200103":           1,
		exampleBatch:                    3,
		"1:0000003 2:0000001 3:0000002": 2,
		"1:0000001 2:0000003 3:0000001": 1,
		"1:1000000 2:0000009 3:0100000": 2,
		"9:0000001 8:0000002 7:0000003": 0,
	}
	for text, want := range cases {
		if got := impl.Inversions(batch(text)); got != want {
			t.Errorf("Inversions of %q = %d, not %d", text, got, want)
		}
	}
	var falling []impl.Letter
	for i := range 60 {
		falling = append(falling, impl.Letter{Id: i + 1, Code: fmt.Sprintf("%07d", 99-i)})
	}
	if got := impl.Inversions(falling); got != 60*59/2 {
		t.Errorf("Inversions of falling codes = %d", got)
	}
}

// Neighbours are exchanged one by one, so that each exchange takes one inversion away.
func TestInversionsCountExchanges(t *testing.T) {
	for _, b := range sampleBatches() {
		row, exchanges := slices.Clone(b), 0
		for range row {
			for i := 1; i < len(row); i++ {
				if row[i].Code < row[i-1].Code {
					row[i], row[i-1] = row[i-1], row[i]
					exchanges++
				}
			}
		}
		if got := impl.Inversions(b); got != exchanges {
			t.Errorf("Inversions(%v) = %d, not %d", b, got, exchanges)
		}
	}
}

func TestMergeBatches(t *testing.T) {
	d := dice(5)
	for size := range impl.MaxBatch + 1 {
		all := someBatch(&d, size)
		cut := d.roll(size + 1)
		a, b := stableByHand(all[:cut]), stableByHand(all[cut:])
		got, ok := impl.MergeBatches(a, b)
		if !ok {
			t.Errorf("MergeBatches(%v, %v) is false", a, b)
		}
		checkLetters(t, fmt.Sprintf("MergeBatches(%v, %v)", a, b), got, stableByHand(all))
	}
}

func TestMergeBatchesKeepsOrder(t *testing.T) {
	a, b := batch("9:1200101 3:1200101 5:1200102"), batch("1:1200101 8:1200101 2:1200103")
	if x, ok := impl.MergeBatches(a, b); idsOf(x) != "9 3 1 8 5 2" || !ok {
		t.Errorf("MergeBatches = %v, %v", x, ok)
	}
	if x, ok := impl.MergeBatches(b, a); idsOf(x) != "1 8 9 3 5 2" || !ok {
		t.Errorf("MergeBatches = %v, %v", x, ok)
	}
}

func TestMergeBatchesInvalid(t *testing.T) {
	good, bad := batch("1:1200101 2:1200102"), batch("4:1200102 3:1200101")
	for _, pair := range [][2][]impl.Letter{
		{good, bad}, {bad, good}, {bad, nil}, {nil, bad}, {bad, bad}, {good, good},
		{good, batch("2:1200103")}, {manyLetters(60), batch("61:1200107")}, {batch("61:1200107"), manyLetters(60)},
	} {
		if x, ok := impl.MergeBatches(pair[0], pair[1]); len(x) != 0 || ok {
			t.Errorf("MergeBatches(%v, %v) = %v, %v", pair[0], pair[1], x, ok)
		}
	}
	if x, ok := impl.MergeBatches(nil, nil); len(x) != 0 || !ok {
		t.Errorf("MergeBatches of nothing = %v, %v", x, ok)
	}
	if x, ok := impl.MergeBatches(manyLetters(59), batch("60:1200107")); len(x) != 60 || !ok {
		t.Errorf("MergeBatches of 60 letters = %v, %v", x, ok)
	}
}

func TestSplitBatch(t *testing.T) {
	b := batch("5:1200107 2:1200103 9:1200007 1:0120010 3:1200103")
	cases := []struct{ prefix, with, without string }{
		{"", "5 2 9 1 3", ""}, {"1", "5 2 9 3", "1"}, {"0", "1", "5 2 9 3"}, {"12001", "5 2 3", "9 1"},
		{"1200103", "2 3", "5 9 1"}, {"1200104", "", "5 2 9 1 3"}, {"200", "", "5 2 9 1 3"}, {"9999999", "", "5 2 9 1 3"},
	}
	for _, c := range cases {
		with, without, ok := impl.SplitBatch(b, c.prefix)
		if idsOf(with) != c.with || idsOf(without) != c.without || !ok {
			t.Errorf("SplitBatch for %q = %v, %v, %v", c.prefix, with, without, ok)
		}
		if n := impl.CountPrefix(b, c.prefix); n != len(with) {
			t.Errorf("CountPrefix for %q = %d", c.prefix, n)
		}
	}
	for _, prefix := range []string{"x", "12001070", "-1", " ", "120*", "1\xff", strings.Repeat("1", 20), "\u0661"} {
		for _, list := range [][]impl.Letter{b, nil} {
			if with, without, ok := impl.SplitBatch(list, prefix); len(with) != 0 || len(without) != 0 || ok {
				t.Errorf("SplitBatch for %q = %v, %v, %v", prefix, with, without, ok)
			}
			if n := impl.CountPrefix(list, prefix); n != -1 {
				t.Errorf("CountPrefix for %q = %d", prefix, n)
			}
		}
	}
	if with, without, ok := impl.SplitBatch(nil, "1200107"); len(with) != 0 || len(without) != 0 || !ok {
		t.Errorf("SplitBatch of nothing = %v, %v, %v", with, without, ok)
	}
	if n := impl.CountPrefix(nil, ""); n != 0 {
		t.Errorf("CountPrefix of nothing = %d", n)
	}
}

func TestCodesOf(t *testing.T) {
	cases := map[string]string{
		"":           "",
		"1:1200107":  "1200107",
		exampleBatch: "1200007 1200103 1200107",
		"1:1200107 2:1200103 3:1200107 4:0000000 5:1200103": "0000000 1200103 1200107",
		"3:9999999 2:1000000 1:0999999":                     "0999999 1000000 9999999",
	}
	for text, want := range cases {
		if got := strings.Join(impl.CodesOf(batch(text)), " "); got != want {
			t.Errorf("CodesOf %q = %q, not %q", text, got, want)
		}
	}
	if codes := impl.CodesOf(manyLetters(60)); !slices.Equal(codes, []string{"1200107"}) {
		t.Errorf("CodesOf equal codes = %v", codes)
	}
}

// The results are spoiled, so that memory that they share with an argument or with each other shows.
func TestBatchesShareNoMemory(t *testing.T) {
	for _, text := range []string{exampleBatch, "1:1200107", "1:1200101 2:1200101 3:1200102 4:1200109"} {
		b, check := guarded(t, batch(text))
		for what, sort := range sortings(b) {
			x, _ := sort()
			spoil(x)
			check(what)
		}
		for digit := range 7 {
			bins, _ := impl.BinPass(b, digit)
			for i, bin := range bins {
				spoil(bin)
				for _, later := range bins[i+1:] {
					if slices.Contains(later, impl.Letter{}) {
						t.Errorf("BinPass(%v, %d) has bins with common memory", b, digit)
					}
				}
			}
			check("BinPass")
		}
		with, without, _ := impl.SplitBatch(b, "120010")
		spoil(with)
		if slices.Contains(without, impl.Letter{}) {
			t.Error("SplitBatch has results with common memory")
		}
		spoil(without)
		check("SplitBatch")
		spoil(impl.VaryingDigits(b))
		spoil(impl.CodesOf(b))
		check("VaryingDigits or CodesOf")
	}
}

func TestCollectBinsSharesNoMemory(t *testing.T) {
	b, check := guarded(t, batch(exampleBatch))
	for _, bins := range [][][]impl.Letter{{b}, {nil, b[:1], b[1:]}, {b[:2], nil, b[2:]}} {
		x, ok := impl.CollectBins(bins)
		if idsOf(x) != "1 2 3" || !ok {
			t.Errorf("CollectBins(%v) = %v, %v", bins, x, ok)
		}
		spoil(x)
		check("CollectBins")
	}
}

package tests

import (
	"fmt"
	"math"
	"slices"
	"testing"

	"loop.example/sortingoffice/impl"
)

// keptByHand returns the size of the greatest part of a batch that is in order, found among all parts.
func keptByHand(p impl.Plan, b []impl.Letter) int {
	most := 0
	for part := range 1 << len(b) {
		count, last := 0, -1
		for i, l := range b {
			if part>>i&1 == 0 {
				continue
			}
			rank := slices.Index(p.Order, l.Code)
			count++
			if rank < max(last, 0) {
				count = -100
			}
			last = rank
		}
		most = max(most, count)
	}
	return most
}

// keptInPairs returns the same for greater batches: the greatest number of letters up to each one that are in order with it.
func keptInPairs(p impl.Plan, b []impl.Letter) int {
	upTo := make([]int, len(b)+1)
	for i, l := range b {
		rank := slices.Index(p.Order, l.Code)
		if rank < 0 {
			continue
		}
		upTo[i] = 1
		for k, before := range b[:i] {
			if upTo[k] > 0 && slices.Index(p.Order, before.Code) <= rank {
				upTo[i] = max(upTo[i], upTo[k]+1)
			}
		}
	}
	return slices.Max(upTo)
}

func checkKept(t *testing.T, p impl.Plan, b []impl.Letter, kept int, moved int) {
	t.Helper()
	if got := impl.KeptLetters(p, b); got != kept {
		t.Errorf("KeptLetters(%v, %v) = %d, not %d", p, b, got, kept)
	}
	if got := impl.MovedLetters(p, b); got != moved {
		t.Errorf("MovedLetters(%v, %v) = %d, not %d", p, b, got, moved)
	}
}

func TestLimitOfSeals(t *testing.T) {
	if impl.SealSize != 9973 {
		t.Error("SealSize", impl.SealSize)
	}
}

func TestMissingIds(t *testing.T) {
	for _, c := range []struct {
		before, after string
		missing       []int
	}{
		{"", "", nil},
		{"", "1:1200107", nil},
		{"7:1200107 3:1200108 9999:1200107 1:1200109", "", []int{1, 3, 7, 9999}},
		{"7:1200107 3:1200108 9999:1200107 1:1200109", "9999:1200107 5:1200107", []int{1, 3, 7}},
		{"10:1200107 9:1200108 2:1200109", "2:1200109", []int{9, 10}},
		{"1:1200107 2:1200108", "2:1200108 1:1200107", nil},
		// A letter that has another code now is still there.
		{"1:1200107 2:1200108", "2:1200107 3:1200108", []int{1}},
	} {
		checkNumbers(t, fmt.Sprintf("MissingIds of %q and %q", c.before, c.after), impl.MissingIds(batch(c.before), batch(c.after)), c.missing)
	}
	d := dice(41)
	for _, b := range sampleBatches() {
		var after []impl.Letter
		var missing []int
		for _, l := range shuffled(&d, b) {
			if d.roll(2) == 0 {
				missing = append(missing, l.Id)
			} else {
				after = append(after, l)
			}
		}
		slices.Sort(missing)
		checkNumbers(t, fmt.Sprintf("MissingIds(%v, %v)", b, after), impl.MissingIds(b, after), missing)
		checkNumbers(t, fmt.Sprintf("MissingIds(%v, %v)", after, b), impl.MissingIds(after, b), nil)
	}
	for _, x := range invalidBatches() {
		for _, b := range [][]impl.Letter{nil, batch("7777:1200107"), x} {
			checkNumbers(t, fmt.Sprintf("MissingIds(%v, %v)", b, x), impl.MissingIds(b, x), nil)
			checkNumbers(t, fmt.Sprintf("MissingIds(%v, %v)", x, b), impl.MissingIds(x, b), nil)
		}
	}
}

func TestSeals(t *testing.T) {
	for _, c := range []struct {
		letters     string
		seal, order int
	}{
		{"", 0, 0},
		{"1:1200107", 1, 1},
		{"100:1200107", 27, 100},
		{"9999:1200107", 676, 26},
		{"9973:1200107", 0, 0},
		{"1:1200102 2:1200101 3:1200109", 14, 1026},
		{"3:1200102 2:1200101 1:1200109", 14, 2946},
		{"2:0000000 1:0000000 3:0000000", 14, 1956},
		{"9998:1200107 9999:1200107", 1301, 801},
		{"9999:1200107 9998:1200107", 1301, 831},
		// The last lines of the example of chapter 8.
		{"4:1200103 3:1200101 1:1200102", 26, 3938},
	} {
		b := batch(c.letters)
		if seal, order := impl.SealOf(b), impl.OrderSeal(b); seal != c.seal || order != c.order {
			t.Errorf("the seals of %q are %d and %d", c.letters, seal, order)
		}
	}
	d := dice(42)
	for _, b := range sampleBatches() {
		sum, order := 0, 0
		for _, l := range b {
			sum += l.Id * l.Id
			order = (31*order + l.Id) % 9973
		}
		turned := shuffled(&d, b)
		if impl.SealOf(b) != sum%9973 || impl.SealOf(turned) != sum%9973 || impl.OrderSeal(b) != order {
			t.Errorf("the seals of %v are %d, %d and %d", b, impl.SealOf(b), impl.SealOf(turned), impl.OrderSeal(b))
		}
	}
	for _, b := range invalidBatches() {
		if seal, order := impl.SealOf(b), impl.OrderSeal(b); seal != -1 || order != -1 {
			t.Errorf("the seals of %v are %d and %d", b, seal, order)
		}
	}
}

// Two letters that change their places change the seal of the order, and not the other one.
func TestSealsOfExchangedLetters(t *testing.T) {
	b := batch("4:1200103 3:1200101 1:1200102 2:1200102 9:1200107")
	for i := range b {
		for k := range i {
			turned := slices.Clone(b)
			turned[i], turned[k] = turned[k], turned[i]
			if impl.SealOf(turned) != impl.SealOf(b) || impl.OrderSeal(turned) == impl.OrderSeal(b) {
				t.Errorf("the seals of %v are %d and %d", turned, impl.SealOf(turned), impl.OrderSeal(turned))
			}
		}
	}
}

func TestSampleLetters(t *testing.T) {
	for _, b := range sampleBatches() {
		for k := 1; k <= 60; k++ {
			var want []impl.Letter
			for i, l := range b {
				if i%k == 0 {
					want = append(want, l)
				}
			}
			x, ok := impl.SampleLetters(b, k)
			checkRound(t, fmt.Sprintf("SampleLetters(%v, %d)", b, k), x, ok, want)
		}
		for _, k := range []int{math.MinInt, -60, -1, 0, 61, 62, math.MaxInt} {
			if x, ok := impl.SampleLetters(b, k); len(x) != 0 || ok {
				t.Errorf("SampleLetters(%v, %d) = %v, %v", b, k, x, ok)
			}
		}
	}
	for _, b := range invalidBatches() {
		for _, k := range []int{-1, 0, 1, 2, 60, 61} {
			if x, ok := impl.SampleLetters(b, k); len(x) != 0 || ok {
				t.Errorf("SampleLetters(%v, %d) = %v, %v", b, k, x, ok)
			}
		}
	}
}

func TestKeptLetters(t *testing.T) {
	d := dice(43)
	for _, p := range samplePlans() {
		for _, b := range batchesFor(&d, p) {
			round, strange := roundByHand(p, b)
			checkKept(t, p, round, len(round), 0)
			checkKept(t, p, strange, 0, len(strange))
			kept := keptInPairs(p, b)
			checkKept(t, p, b, kept, len(b)-kept)
			if impl.InOrder(p, b) != (kept == len(b)) {
				t.Errorf("InOrder(%v, %v), of which %d letters are kept", p, b, kept)
			}
		}
		for range 3 {
			b := roundBatch(&d, p, 7)
			kept := keptByHand(p, b)
			checkKept(t, p, b, kept, 7-kept)
		}
	}
}

func TestKeptLettersCases(t *testing.T) {
	for _, c := range []struct {
		letters     string
		kept, moved int
	}{
		{"", 0, 0},
		{"1:2000000", 0, 1},
		{"1:1200101", 1, 0},
		{"1:1200101 2:1200101 3:1200101", 3, 0},
		{"1:1200101 2:1200102 3:1200103 4:1200104", 4, 0},
		{"4:1200104 3:1200103 2:1200102 1:1200101", 1, 3},
		{"4:1200104 1:1200101 2:1200102 3:1200103", 3, 1},
		{"1:1200101 4:1200104 2:1200102 3:1200103 5:1200104", 4, 1},
		{"1:1200102 2:1200101 3:1200102 4:1200101 5:1200102", 3, 2},
		// The letters that are kept need not stand next to each other, and none without a rank is among them.
		{"1:1200103 2:1200101 3:2000000 4:1200104 5:1200102 6:2000000 7:1200103", 3, 4},
		{"1:1200101 2:2000000 3:1200102", 2, 1},
		{"1:1200104 2:1200104 3:1200101 4:1200104 5:1200102", 3, 2},
	} {
		checkKept(t, plan(fourPoints), batch(c.letters), c.kept, c.moved)
	}
	// The line "moved" of the example of chapter 8.
	checkKept(t, plan(examplePlan), batch("1:1200102 2:1200104 3:1200101 4:1200103 5:1200106"), 1, 4)
	for _, b := range permutations(batch("1:1200101 2:1200102 3:1200103 4:1200104 5:1200102 6:2000000")) {
		kept := keptByHand(plan(fourPoints), b)
		checkKept(t, plan(fourPoints), b, kept, 6-kept)
	}
	checkKept(t, plan("2 1 1200107"), manyLetters(60), 60, 0)
	checkKept(t, plan("2 1 1200101"), manyLetters(60), 0, 60)
}

func TestKeptLettersInvalid(t *testing.T) {
	for _, p := range invalidPlans() {
		checkKept(t, p, nil, -1, -1)
		checkKept(t, p, batch("1:1200103"), -1, -1)
	}
	for _, b := range invalidBatches() {
		checkKept(t, plan(examplePlan), b, -1, -1)
		checkKept(t, plan("2 1 1200107"), b, -1, -1)
	}
}

func TestSamplesShareNoMemory(t *testing.T) {
	p := plan(fourPoints)
	for _, sample := range sampleBatches() {
		b, check := guarded(t, sample)
		for _, k := range []int{1, 2, 60} {
			x, _ := impl.SampleLetters(b, k)
			spoil(x)
			check("SampleLetters")
		}
		spoil(impl.MissingIds(b, nil))
		spoil(impl.MissingIds(b, b))
		impl.SealOf(b)
		impl.OrderSeal(b)
		impl.KeptLetters(p, b)
		impl.MovedLetters(p, b)
		check("a function of the chapter")
	}
}

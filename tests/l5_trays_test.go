package tests

import (
	"fmt"
	"math"
	"slices"
	"strings"
	"testing"

	"loop.example/sortingoffice/impl"
)

// notTraySizes has numbers that are no sizes of trays.
var notTraySizes = []int{math.MinInt, -20, -1, 0, 21, 60, math.MaxInt}

// trays reads the text of trays with a `|` between them.
func trays(text string) [][]impl.Letter {
	var list [][]impl.Letter
	for _, part := range strings.FieldsFunc(text, func(r rune) bool { return r == '|' }) {
		list = append(list, batch(part))
	}
	return list
}

// fillByHand divides letters into runs with the same beginning, and each run into trays that are full but for the last one.
func fillByHand(b []impl.Letter, size int, digits int) [][]impl.Letter {
	var list [][]impl.Letter
	for len(b) > 0 {
		end := slices.IndexFunc(b, func(l impl.Letter) bool { return !strings.HasPrefix(l.Code, b[0].Code[:digits]) })
		if end < 0 {
			end = len(b)
		}
		list = slices.AppendSeq(list, slices.Chunk(b[:end], size))
		b = b[end:]
	}
	return list
}

// someTrays divides letters into trays of any sizes.
func someTrays(d *dice, b []impl.Letter) [][]impl.Letter {
	var list [][]impl.Letter
	for len(b) > 0 {
		end := 1 + d.roll(min(len(b), 20))
		list = append(list, b[:end])
		b = b[end:]
	}
	return list
}

// sampleTrays has trays of all sizes, from none to the greatest number of trays.
func sampleTrays() [][][]impl.Letter {
	d := dice(12)
	list := [][][]impl.Letter{nil, {}, trays("1:0000000|9999:9999999")}
	for _, b := range sampleBatches() {
		list = append(list, someTrays(&d, b), fillByHand(b, 1, 0), fillByHand(b, 20, 0))
	}
	return list
}

// invalidTrays has lists of letters that are no trays of any size, for each condition.
func invalidTrays() [][][]impl.Letter {
	full := fillByHand(manyLetters(60), 20, 0)
	one := trays("1:1200107")
	list := [][][]impl.Letter{
		{nil}, {{}}, {one[0], nil}, {nil, one[0]}, {one[0], {}, batch("2:1200107")}, append(fillByHand(manyLetters(60), 1, 0), nil),
		{manyLetters(21)}, {manyLetters(60)}, {batch("100:1200107"), manyLetters(21)}, {manyLetters(21), batch("100:1200107")},
		append(full, batch("100:1200107")), fillByHand(manyLetters(61), 1, 0), fillByHand(manyLetters(80), 20, 0),
		make([][]impl.Letter, 60), make([][]impl.Letter, 61), make([][]impl.Letter, 100000),
		{one[0], one[0]}, trays("1:1200107 2:1200107|1:1200108"), trays("1:1200107|2:1200107|3:1200107 1:1200107"),
	}
	for _, b := range invalidBatches() {
		list = append(list, [][]impl.Letter{b}, fillByHand(b, 1, 0), [][]impl.Letter{batch("77:1200107"), b}, [][]impl.Letter{b, batch("77:1200107")})
	}
	return list
}

func checkTrays(t *testing.T, what string, got [][]impl.Letter, ok bool, want [][]impl.Letter) {
	t.Helper()
	if !slices.EqualFunc(got, want, slices.Equal[[]impl.Letter]) || !ok {
		t.Errorf("%s = %v, %v, not %v", what, got, ok, want)
	}
}

func checkNoTrays(t *testing.T, what string, got [][]impl.Letter, ok bool) {
	t.Helper()
	if len(got) != 0 || ok {
		t.Errorf("%s = %v, %v", what, got, ok)
	}
}

func checkNotFilled(t *testing.T, b []impl.Letter, size int, digits int) {
	t.Helper()
	x, ok := impl.FillByPrefix(b, size, digits)
	checkNoTrays(t, fmt.Sprintf("FillByPrefix(%v, %d, %d)", b, size, digits), x, ok)
}

func TestLimitsOfTrays(t *testing.T) {
	if impl.MaxTray != 20 || impl.MaxTrays != 60 {
		t.Error("limits", impl.MaxTray, impl.MaxTrays)
	}
}

// Promise 5: trays keep the order of letters. All but the last one are full.
func TestFillTrays(t *testing.T) {
	for _, b := range sampleBatches() {
		for size := 1; size <= 20; size++ {
			what := fmt.Sprintf("FillTrays(%v, %d)", b, size)
			x, ok := impl.FillTrays(b, size)
			checkTrays(t, what, x, ok, fillByHand(b, size, 0))
			if !impl.TraysValid(x, size) {
				t.Errorf("%s = %v are not trays", what, x)
			}
			emptied, ok := impl.EmptyTrays(x)
			checkLetters(t, "EmptyTrays of "+what, emptied, b)
			if !ok {
				t.Errorf("EmptyTrays of %s is false", what)
			}
		}
	}
}

// A tray that is just full is followed by another one only if there is another letter.
func TestTraysJustFull(t *testing.T) {
	for size := 1; size <= 20; size++ {
		for count := 1; count*size <= 60; count++ {
			full, _ := impl.FillTrays(manyLetters(count*size), size)
			if len(full) != count || len(full[count-1]) != size {
				t.Errorf("FillTrays of %d letters with the size %d = %v", count*size, size, full)
			}
			if count*size == 60 {
				continue
			}
			more, _ := impl.FillTrays(manyLetters(count*size+1), size)
			if len(more) != count+1 || len(more[count]) != 1 {
				t.Errorf("FillTrays of %d letters with the size %d = %v", count*size+1, size, more)
			}
		}
	}
}

func TestFillTraysInvalid(t *testing.T) {
	for _, b := range invalidBatches() {
		for _, size := range []int{0, 1, 2, 20, 21} {
			x, ok := impl.FillTrays(b, size)
			checkNoTrays(t, fmt.Sprintf("FillTrays(%v, %d)", b, size), x, ok)
		}
	}
	for _, size := range notTraySizes {
		for _, b := range [][]impl.Letter{nil, batch("1:1200107"), manyLetters(60)} {
			x, ok := impl.FillTrays(b, size)
			checkNoTrays(t, fmt.Sprintf("FillTrays(%v, %d)", b, size), x, ok)
		}
	}
}

// Promise 5: trays keep the order of letters, also if they are filled by prefixes.
func TestFillByPrefix(t *testing.T) {
	for _, b := range sampleBatches() {
		for _, size := range []int{1, 2, 3, 7, 19, 20} {
			for digits := range 8 {
				what := fmt.Sprintf("FillByPrefix(%v, %d, %d)", b, size, digits)
				x, ok := impl.FillByPrefix(b, size, digits)
				checkTrays(t, what, x, ok, fillByHand(b, size, digits))
				emptied, ok := impl.EmptyTrays(x)
				checkLetters(t, "EmptyTrays of "+what, emptied, b)
				if !ok || !impl.TraysValid(x, size) {
					t.Errorf("%s = %v are not trays", what, x)
				}
			}
		}
	}
}

func TestFillByPrefixCases(t *testing.T) {
	for _, c := range []struct {
		letters      string
		size, digits int
		want         string
	}{
		{"", 1, 0, ""}, {"", 20, 7, ""}, {"5:1200107", 1, 7, "5:1200107"},
		{"1:1200101 2:1200102 3:1200201", 20, 0, "1:1200101 2:1200102 3:1200201"},
		{"1:1200101 2:1200102 3:1200201", 20, 4, "1:1200101 2:1200102 3:1200201"},
		{"1:1200101 2:1200102 3:1200201", 20, 5, "1:1200101 2:1200102|3:1200201"},
		{"1:1200101 2:1200102 3:1200201", 20, 7, "1:1200101|2:1200102|3:1200201"},
		{"1:1200101 2:1200101 3:1200102", 2, 7, "1:1200101 2:1200101|3:1200102"},
		{"1:1200101 2:1200101 3:1200101 4:1200102 5:1200102 6:1200102", 2, 7, "1:1200101 2:1200101|3:1200101|4:1200102 5:1200102|6:1200102"},
		{"1:1200101 2:1300101 3:1200101 4:1200101", 20, 2, "1:1200101|2:1300101|3:1200101 4:1200101"},
		{"1:1200101 2:1200101 3:1300101 4:1300101", 3, 2, "1:1200101 2:1200101|3:1300101 4:1300101"},
		{"1:0200101 2:1200101 3:1200101", 20, 1, "1:0200101|2:1200101 3:1200101"},
	} {
		x, ok := impl.FillByPrefix(batch(c.letters), c.size, c.digits)
		checkTrays(t, fmt.Sprintf("FillByPrefix(%q, %d, %d)", c.letters, c.size, c.digits), x, ok, trays(c.want))
	}
}

func TestFillByPrefixInvalid(t *testing.T) {
	good := [][]impl.Letter{nil, batch("1:1200107"), batch("1:1200107 2:1200103"), manyLetters(60)}
	for _, b := range good {
		for _, digits := range []int{math.MinInt, -1, 8, 20, math.MaxInt} {
			checkNotFilled(t, b, 20, digits)
		}
		for _, size := range notTraySizes {
			checkNotFilled(t, b, size, 0)
			checkNotFilled(t, b, size, 7)
		}
	}
	for _, b := range invalidBatches() {
		for digits := range 9 {
			checkNotFilled(t, b, 20, digits)
		}
	}
}

func TestTraysValid(t *testing.T) {
	for _, list := range sampleTrays() {
		greatest := 1
		for _, tray := range list {
			greatest = max(greatest, len(tray))
		}
		for size := 1; size <= 20; size++ {
			if got := impl.TraysValid(list, size); got != (size >= greatest) {
				t.Errorf("TraysValid(%v, %d) = %v", list, size, got)
			}
		}
		for _, size := range notTraySizes {
			if impl.TraysValid(list, size) {
				t.Errorf("TraysValid(%v, %d) is true", list, size)
			}
		}
	}
	for _, list := range invalidTrays() {
		for _, size := range []int{-1, 0, 1, 10, 20, 21, 60} {
			if impl.TraysValid(list, size) {
				t.Errorf("TraysValid(%v, %d) is true", list, size)
			}
		}
	}
}

// Each function of the chapter that has trays has a result of its own for lists that are none.
func TestInvalidTrays(t *testing.T) {
	for _, list := range invalidTrays() {
		if b, ok := impl.EmptyTrays(list); len(b) != 0 || ok {
			t.Errorf("EmptyTrays(%v) = %v, %v", list, b, ok)
		}
		if s := impl.FormatTrays(list); s != "" {
			t.Errorf("FormatTrays(%v) = %q", list, s)
		}
		for _, id := range []int{-1, 0, 1, 2, 77, 100, 10000} {
			if i := impl.TrayOf(list, id); i != -1 {
				t.Errorf("TrayOf(%v, %d) = %d", list, id, i)
			}
		}
		for _, size := range []int{0, 1, 20, 21} {
			x, ok := impl.RepackTrays(list, size)
			checkNoTrays(t, fmt.Sprintf("RepackTrays(%v, %d)", list, size), x, ok)
		}
	}
}

// Promise 5: trays keep the order of letters when they are emptied.
func TestEmptyTrays(t *testing.T) {
	for _, list := range sampleTrays() {
		b, ok := impl.EmptyTrays(list)
		checkLetters(t, fmt.Sprintf("EmptyTrays(%v)", list), b, slices.Concat(list...))
		if !ok {
			t.Errorf("EmptyTrays(%v) is false", list)
		}
	}
	b, ok := impl.EmptyTrays(trays("9:1200109|3:1200103 4:1200101|1:1200102"))
	if idsOf(b) != "9 3 4 1" || !ok {
		t.Errorf("EmptyTrays = %v, %v", b, ok)
	}
}

func TestLabelOf(t *testing.T) {
	for text, want := range map[string]string{
		"":                    "",
		"1:1200107":           "1200107-1200107",
		"1:1200107 2:1200107": "1200107-1200107",
		"2:1200103 1:0000000": "1200103-0000000",
		"7:1200105 2:1200109 1:1200101 3:1200107": "1200105-1200107",
	} {
		if got := impl.LabelOf(batch(text)); got != want {
			t.Errorf("LabelOf(%q) = %q, not %q", text, got, want)
		}
	}
	// A batch that is no tray has a label, too.
	for _, b := range sampleBatches() {
		want := ""
		if len(b) > 0 {
			want = b[0].Code + "-" + b[len(b)-1].Code
		}
		if got := impl.LabelOf(b); got != want {
			t.Errorf("LabelOf(%v) = %q, not %q", b, got, want)
		}
	}
	for _, b := range invalidBatches() {
		if got := impl.LabelOf(b); got != "" {
			t.Errorf("LabelOf(%v) = %q", b, got)
		}
	}
}

func TestFormatTrays(t *testing.T) {
	for text, want := range map[string]string{
		"":                              "-",
		"1:1200107":                     "1200107-1200107:1",
		"2:1200103 1:0000000|3:9999999": "1200103-0000000:2 9999999-9999999:1",
		"3:1200107|1:1200107|2:1200107 4:1200101": "1200107-1200107:1 1200107-1200107:1 1200107-1200101:2",
	} {
		if got := impl.FormatTrays(trays(text)); got != want {
			t.Errorf("FormatTrays(%q) = %q, not %q", text, got, want)
		}
	}
	for _, list := range sampleTrays() {
		var fields []string
		for _, tray := range list {
			fields = append(fields, fmt.Sprintf("%s-%s:%d", tray[0].Code, tray[len(tray)-1].Code, len(tray)))
		}
		want := strings.Join(fields, " ")
		if len(list) == 0 {
			want = "-"
		}
		if got := impl.FormatTrays(list); got != want {
			t.Errorf("FormatTrays(%v) = %q, not %q", list, got, want)
		}
	}
}

func TestTrayOf(t *testing.T) {
	for _, list := range sampleTrays() {
		for want, tray := range list {
			for _, l := range tray {
				if got := impl.TrayOf(list, l.Id); got != want {
					t.Errorf("TrayOf(%v, %d) = %d, not %d", list, l.Id, got, want)
				}
			}
		}
		ids := []int{math.MinInt, -1, 0, 10000, math.MaxInt}
		for range 5 {
			ids = append(ids, 9500+len(ids))
		}
		for _, id := range ids {
			if got := impl.TrayOf(list, id); got != -1 {
				t.Errorf("TrayOf(%v, %d) = %d", list, id, got)
			}
		}
	}
}

func TestLeastTrays(t *testing.T) {
	for size := 1; size <= 20; size++ {
		for count := range 61 {
			want := len(fillByHand(manyLetters(count), size, 0))
			if got := impl.LeastTrays(count, size); got != want {
				t.Errorf("LeastTrays(%d, %d) = %d, not %d", count, size, got, want)
			}
		}
		for _, count := range []int{math.MinInt, -20, -1, 61, 80, math.MaxInt} {
			if got := impl.LeastTrays(count, size); got != -1 {
				t.Errorf("LeastTrays(%d, %d) = %d", count, size, got)
			}
		}
	}
	for _, size := range notTraySizes {
		for _, count := range []int{-1, 0, 1, 60, 61} {
			if got := impl.LeastTrays(count, size); got != -1 {
				t.Errorf("LeastTrays(%d, %d) = %d", count, size, got)
			}
		}
	}
}

// Promise 5: trays keep the order of letters when they are filled again, and no other trays of the size are fewer.
func TestRepackTrays(t *testing.T) {
	for _, list := range sampleTrays() {
		for size := 1; size <= 20; size++ {
			what := fmt.Sprintf("RepackTrays(%v, %d)", list, size)
			x, ok := impl.RepackTrays(list, size)
			checkTrays(t, what, x, ok, fillByHand(slices.Concat(list...), size, 0))
			if impl.TraysValid(list, size) && len(x) > len(list) {
				t.Errorf("%s = %v are more trays", what, x)
			}
		}
		for _, size := range notTraySizes {
			x, ok := impl.RepackTrays(list, size)
			checkNoTrays(t, fmt.Sprintf("RepackTrays(%v, %d)", list, size), x, ok)
		}
	}
	x, ok := impl.RepackTrays(trays("9:1200109|3:1200103 4:1200101 5:1200101|1:1200102"), 2)
	checkTrays(t, "RepackTrays", x, ok, trays("9:1200109 3:1200103|4:1200101 5:1200101|1:1200102"))
}

// The results are spoiled, so that memory that they share with an argument or with each other shows.
func TestTraysShareNoMemory(t *testing.T) {
	for _, text := range []string{"", "1:1200107", "1:1200107 2:1200103 3:1200103 4:1200101 5:1200101 6:1200209 7:1200209"} {
		b, check := guarded(t, batch(text))
		list, checkList := guarded(t, fillByHand(b, 3, 0))
		for what, fill := range map[string]func() ([][]impl.Letter, bool){
			"FillTrays":                    func() ([][]impl.Letter, bool) { return impl.FillTrays(b, 2) },
			"FillTrays, one tray":          func() ([][]impl.Letter, bool) { return impl.FillTrays(b, 20) },
			"FillByPrefix":                 func() ([][]impl.Letter, bool) { return impl.FillByPrefix(b, 20, 7) },
			"FillByPrefix, one tray":       func() ([][]impl.Letter, bool) { return impl.FillByPrefix(b, 20, 0) },
			"RepackTrays":                  func() ([][]impl.Letter, bool) { return impl.RepackTrays(list, 4) },
			"RepackTrays, as they were":    func() ([][]impl.Letter, bool) { return impl.RepackTrays(list, 3) },
			"RepackTrays, a letter a tray": func() ([][]impl.Letter, bool) { return impl.RepackTrays(list, 1) },
		} {
			x, ok := fill()
			if !ok {
				t.Errorf("%s of %q is false", what, text)
			}
			for i, tray := range x {
				spoil(tray)
				if slices.Contains(slices.Concat(x[i+1:]...), impl.Letter{}) {
					t.Errorf("%s of %q has trays with common memory", what, text)
				}
			}
			spoil(x)
			check(what)
			checkList(what)
		}
		emptied, _ := impl.EmptyTrays(list)
		spoil(emptied)
		single, _ := impl.EmptyTrays(list[:min(len(list), 1)])
		spoil(single)
		impl.TraysValid(list, 3)
		impl.FormatTrays(list)
		impl.TrayOf(list, 3)
		impl.LabelOf(b)
		check("EmptyTrays or another function")
		checkList("EmptyTrays or another function")
	}
}

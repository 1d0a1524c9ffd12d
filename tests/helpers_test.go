package tests

import (
	"fmt"
	"slices"
	"strconv"
	"strings"
	"testing"

	"loop.example/sortingoffice/impl"
)

// dice is a generator whose numbers are the same in every run.
type dice uint64

func (d *dice) roll(sides int) int {
	*d = *d*6364136223846793005 + 1442695040888963407
	return int(uint64(*d) >> 33 % uint64(sides))
}

// batch reads the text of letters without the functions that are tested.
func batch(text string) []impl.Letter {
	var b []impl.Letter
	for _, field := range strings.Fields(text) {
		number, code, _ := strings.Cut(field, ":")
		id, err := strconv.Atoi(number)
		if err != nil {
			panic(field)
		}
		b = append(b, impl.Letter{Id: id, Code: code})
	}
	return b
}

// idsOf writes the Ids of letters with spaces between them.
func idsOf(b []impl.Letter) string {
	var ids []string
	for _, l := range b {
		ids = append(ids, strconv.Itoa(l.Id))
	}
	return strings.Join(ids, " ")
}

// manyLetters returns letters with the Ids from 1 on and all the same code.
func manyLetters(count int) []impl.Letter {
	var b []impl.Letter
	for i := range count {
		b = append(b, impl.Letter{Id: i + 1, Code: "1200107"})
	}
	return b
}

// someBatch returns letters in no order whose codes have few different digits, so that many are equal.
func someBatch(d *dice, count int) []impl.Letter {
	var b []impl.Letter
	first := d.roll(9000) + 1
	for i := range count {
		code := fmt.Sprintf("1%d0%d1%d%d", d.roll(2), d.roll(2), d.roll(2), 8+d.roll(2))
		b = append(b, impl.Letter{Id: first + i*7%61, Code: code})
	}
	return b
}

// invalidBatches has letters that are no batch, for each condition of one.
func invalidBatches() [][]impl.Letter {
	list := [][]impl.Letter{
		manyLetters(61),
		make([]impl.Letter, 1),
		make([]impl.Letter, 61),
		batch("1:1200107 2:1200107 1:1200107"),
		batch("3:1200107 3:1200108"),
	}
	for _, text := range []string{"0:1200107", "-1:1200107", "10000:1200107", "9223372036854775807:1200107", "-9223372036854775808:1200107", "1:", "1:120010", "1:12001070", "1:120010x", "1:120-107", "1:12001\xff7"} {
		list = append(list, batch(text), batch("5:0000000 "+text), batch(text+" 5:0000000"))
	}
	return list
}

// spoil overwrites all memory of a slice, also that behind its length.
func spoil[T any](s []T) {
	clear(s[:cap(s)])
}

// guarded copies a list into the middle of a larger array, and returns with it a check that the whole array is as it was.
func guarded[T any](t *testing.T, list []T) ([]T, func(what string)) {
	t.Helper()
	memory := make([]T, 0, 2*len(list)+4)
	memory = append(memory, list...)
	memory = append(memory, list...)
	before := fmt.Sprintf("%#v", memory[:cap(memory)])
	return memory[:len(list)], func(what string) {
		t.Helper()
		if after := fmt.Sprintf("%#v", memory[:cap(memory)]); after != before {
			t.Errorf("%s changes its argument from %s to %s", what, before, after)
		}
	}
}

func checkLetters(t *testing.T, what string, got []impl.Letter, want []impl.Letter) {
	t.Helper()
	if !slices.Equal(got, want) {
		t.Errorf("%s = %v, not %v", what, got, want)
	}
}

package tests

import (
	"fmt"
	"math"
	"slices"
	"testing"

	"loop.example/sortingoffice/impl"
)

// load is a case of weights and the capacity of trucks.
type load struct {
	weights  []int
	capacity int
}

// someWeights returns weights for a capacity, often the same ones and often the greatest ones.
func someWeights(d *dice, count int, capacity int) []int {
	var w []int
	greatest := 1 + d.roll(capacity)
	if d.roll(3) == 0 {
		greatest = capacity
	}
	for range count {
		weight := 1 + d.roll(greatest)
		if d.roll(8) == 0 {
			weight = capacity
		}
		w = append(w, weight)
	}
	return w
}

// allWeights returns all lists of at most count weights for a capacity.
func allWeights(count int, capacity int) [][]int {
	all := [][]int{nil}
	for start := 0; count > 0; count-- {
		end := len(all)
		for _, w := range all[start:end] {
			for weight := 1; weight <= capacity; weight++ {
				all = append(all, append(slices.Clone(w), weight))
			}
		}
		start = end
	}
	return all
}

// sampleLoads has weights of all numbers from none to the greatest.
func sampleLoads() []load {
	d := dice(13)
	list := []load{
		{nil, 1}, {[]int{}, 1000}, {[]int{1}, 1}, {[]int{1000}, 1000}, {[]int{6, 5, 4, 5}, 10}, {[]int{4, 4, 6, 6}, 10},
		{[]int{1000, 1000, 1000, 1000, 1000, 1000, 1000, 1000}, 1000}, {[]int{1, 1, 1, 1, 1, 1, 1, 1}, 1}, {[]int{1, 1, 1, 1, 1, 1, 1, 1}, 1000},
		{[]int{125, 125, 125, 125, 125, 125, 125, 125}, 1000}, {[]int{125, 125, 125, 125, 125, 125, 125, 126}, 1000},
		{[]int{6, 5, 5, 4, 4, 3, 3}, 15}, {[]int{5, 4, 4, 3, 2, 2}, 10}, {[]int{10, 1, 10, 9, 10, 1}, 10},
	}
	for _, capacity := range []int{1, 2, 3, 10, 30, 999, 1000} {
		for count := range 9 {
			for range 20 {
				list = append(list, load{someWeights(&d, count, capacity), capacity})
			}
		}
	}
	for _, w := range allWeights(6, 3) {
		list = append(list, load{w, 3})
	}
	for _, w := range allWeights(4, 6) {
		list = append(list, load{w, 6})
	}
	return list
}

// invalidLoads has numbers that are no weights for a capacity, for each condition.
func invalidLoads() []load {
	list := []load{
		{[]int{11}, 10}, {[]int{10, 11}, 10}, {[]int{11, 10}, 10}, {[]int{1001}, 1000}, {[]int{1001}, 1001}, {[]int{6, 5, 4, 5}, 5},
		{slices.Repeat([]int{1}, 9), 10}, {slices.Repeat([]int{1}, 9), 1}, {make([]int, 9), 10}, {slices.Repeat([]int{1}, 100000), 1000},
	}
	for _, weight := range []int{math.MinInt, -10, -1, 0, 1001, math.MaxInt} {
		list = append(list, load{[]int{weight}, 1000}, load{[]int{1, weight, 1}, 1000}, load{[]int{1, 2, weight}, 10}, load{[]int{weight, weight}, 1000})
	}
	for _, capacity := range []int{math.MinInt, -1, 0, 1001, math.MaxInt} {
		list = append(list, load{nil, capacity}, load{[]int{}, capacity}, load{[]int{1}, capacity}, load{[]int{capacity}, capacity})
	}
	return list
}

// notLoadings has lists that are no numbers of trucks, for each condition.
func notLoadings() [][]int {
	return [][]int{
		{-1}, {8}, {0, -1}, {-1, 0}, {0, 8}, {8, 0}, {0, 7, 8}, {math.MinInt}, {math.MaxInt}, {math.MaxInt, math.MaxInt}, {1000},
		make([]int, 9), {0, 1, 2, 3, 4, 5, 6, 7, 0}, {0, 0, 0, 0, 0, 0, 0, 8}, make([]int, 100000),
	}
}

// fitByHand gives weights to trucks, and looks through all weights that were given before for the load of a truck.
func fitByHand(w []int, capacity int, turns []int) []int {
	given := slices.Repeat([]int{-1}, len(w))
	for _, i := range turns {
		for truck := 0; given[i] < 0; truck++ {
			weight := w[i]
			for j := range w {
				if given[j] == truck {
					weight += w[j]
				}
			}
			if weight <= capacity {
				given[i] = truck
			}
		}
	}
	return given
}

// turnsByHand returns the indices from the greatest weight to the least one, and those of equal weights in ascending order.
func turnsByHand(w []int) []int {
	var turns []int
	for weight := slices.Max(append([]int{0}, w...)); weight > 0; weight-- {
		for i := range w {
			if w[i] == weight {
				turns = append(turns, i)
			}
		}
	}
	return turns
}

// fewestByHand finds the least number of trucks for each set of weights: one truck takes a part of it, and others the rest.
func fewestByHand(w []int, capacity int) int {
	fewest := make([]int, 1<<len(w))
	for set := 1; set < len(fewest); set++ {
		fewest[set] = len(w)
		for part := set; part > 0; part = (part - 1) & set {
			weight := 0
			for i := range w {
				weight += part >> i & 1 * w[i]
			}
			if weight <= capacity {
				fewest[set] = min(fewest[set], fewest[set&^part]+1)
			}
		}
	}
	return fewest[len(fewest)-1]
}

// loadingsOf returns all lists of as many numbers of the first trucks.
func loadingsOf(count int, trucks int) [][]int {
	all := [][]int{nil}
	for range count {
		var longer [][]int
		for _, given := range all {
			for truck := range trucks {
				longer = append(longer, append(slices.Clone(given), truck))
			}
		}
		all = longer
	}
	return all
}

func checkNumbers(t *testing.T, what string, got []int, want []int) {
	t.Helper()
	if !slices.Equal(got, want) {
		t.Errorf("%s = %v, not %v", what, got, want)
	}
}

func TestLimitsOfTrucks(t *testing.T) {
	if impl.MaxWeight != 1000 || impl.MaxLoads != 8 {
		t.Error("limits", impl.MaxWeight, impl.MaxLoads)
	}
}

func TestWeightsValid(t *testing.T) {
	for _, l := range sampleLoads() {
		if !impl.WeightsValid(l.weights, l.capacity) {
			t.Errorf("WeightsValid(%v, %d) is false", l.weights, l.capacity)
		}
	}
	for _, l := range invalidLoads() {
		if impl.WeightsValid(l.weights, l.capacity) {
			t.Errorf("WeightsValid(%v, %d) is true", l.weights, l.capacity)
		}
	}
}

// Each function of the chapter that has weights has a result of its own for numbers that are none.
func TestInvalidWeights(t *testing.T) {
	for _, l := range invalidLoads() {
		checkNumbers(t, fmt.Sprintf("FirstFit(%v, %d)", l.weights, l.capacity), impl.FirstFit(l.weights, l.capacity), nil)
		checkNumbers(t, fmt.Sprintf("FitSorted(%v, %d)", l.weights, l.capacity), impl.FitSorted(l.weights, l.capacity), nil)
		if n := impl.LeastTrucks(l.weights, l.capacity); n != -1 {
			t.Errorf("LeastTrucks(%v, %d) = %d", l.weights, l.capacity, n)
		}
		// Each weight in a truck of its own would fit.
		given := indices(len(l.weights))
		if impl.LoadingValid(l.weights, l.capacity, given) {
			t.Errorf("LoadingValid(%v, %d, %v) is true", l.weights, l.capacity, given)
		}
		if !impl.WeightsValid(l.weights, 1000) {
			checkNumbers(t, fmt.Sprintf("TruckLoads(%v, %v)", l.weights, given), impl.TruckLoads(l.weights, given), nil)
		}
	}
}

// indices returns the numbers from 0 on.
func indices(count int) []int {
	var list []int
	for i := range count {
		list = append(list, i)
	}
	return list
}

func TestFirstFit(t *testing.T) {
	for _, l := range sampleLoads() {
		want := fitByHand(l.weights, l.capacity, indices(len(l.weights)))
		checkNumbers(t, fmt.Sprintf("FirstFit(%v, %d)", l.weights, l.capacity), impl.FirstFit(l.weights, l.capacity), want)
	}
	for _, c := range []struct {
		load
		want []int
	}{
		{load{[]int{6, 5, 4, 5}, 10}, []int{0, 1, 0, 1}}, // the document's example
		{load{[]int{10, 10, 10}, 10}, []int{0, 1, 2}},
		{load{[]int{1, 10, 9, 10, 1}, 10}, []int{0, 1, 0, 2, 3}},
		{load{[]int{5, 6, 5, 4}, 10}, []int{0, 1, 0, 1}},
		{load{[]int{9, 9, 2, 1, 1}, 10}, []int{0, 1, 2, 0, 1}},
		{load{[]int{4, 4, 6, 6}, 10}, []int{0, 0, 1, 2}},
		{load{[]int{7}, 7}, []int{0}},
	} {
		checkNumbers(t, fmt.Sprintf("FirstFit(%v, %d)", c.weights, c.capacity), impl.FirstFit(c.weights, c.capacity), c.want)
	}
}

func TestFitSorted(t *testing.T) {
	for _, l := range sampleLoads() {
		want := fitByHand(l.weights, l.capacity, turnsByHand(l.weights))
		checkNumbers(t, fmt.Sprintf("FitSorted(%v, %d)", l.weights, l.capacity), impl.FitSorted(l.weights, l.capacity), want)
	}
	for _, c := range []struct {
		load
		want []int
	}{
		{load{[]int{4, 4, 6, 6}, 10}, []int{0, 1, 0, 1}},
		{load{[]int{6, 5, 4, 5}, 10}, []int{0, 1, 0, 1}},
		{load{[]int{1, 2, 3}, 3}, []int{1, 1, 0}},
		{load{[]int{10, 10, 10}, 10}, []int{0, 1, 2}},
		{load{[]int{1, 9, 1, 9, 1}, 10}, []int{0, 0, 1, 1, 2}},
		{load{[]int{3, 3, 3, 3, 3, 3, 3, 3}, 6}, []int{0, 0, 1, 1, 2, 2, 3, 3}},
	} {
		checkNumbers(t, fmt.Sprintf("FitSorted(%v, %d)", c.weights, c.capacity), impl.FitSorted(c.weights, c.capacity), c.want)
	}
}

// Promise 5: trucks by first fit are at most twice as many as the fewest.
func TestTrucksByFirstFit(t *testing.T) {
	for _, l := range sampleLoads() {
		fewest := fewestByHand(l.weights, l.capacity)
		for what, given := range map[string][]int{"FirstFit": impl.FirstFit(l.weights, l.capacity), "FitSorted": impl.FitSorted(l.weights, l.capacity)} {
			if !impl.LoadingValid(l.weights, l.capacity, given) {
				t.Errorf("%s(%v, %d) = %v is not valid", what, l.weights, l.capacity, given)
			}
			if count := impl.TruckCount(given); count < fewest || count > 2*fewest {
				t.Errorf("%s(%v, %d) needs %d trucks, and the fewest are %d", what, l.weights, l.capacity, count, fewest)
			}
			// The bound holds because no truck's load would have had room in another one.
			loads := impl.TruckLoads(l.weights, given)
			slices.Sort(loads)
			if len(loads) > 1 && loads[0]+loads[1] <= l.capacity {
				t.Errorf("%s(%v, %d) leaves the loads %v", what, l.weights, l.capacity, loads)
			}
		}
	}
}

func TestTruckCount(t *testing.T) {
	for _, c := range []struct {
		given []int
		want  int
	}{
		{nil, 0}, {[]int{}, 0}, {[]int{0}, 1}, {[]int{1}, 2}, {[]int{7}, 8}, {[]int{0, 0, 0}, 1}, {[]int{0, 2}, 3}, {[]int{5, 1, 3}, 6},
		{[]int{7, 6, 5, 4, 3, 2, 1, 0}, 8}, {[]int{0, 0, 0, 0, 0, 0, 0, 0}, 1}, {[]int{3, 0, 3, 0, 3, 0, 3, 0}, 4},
	} {
		if got := impl.TruckCount(c.given); got != c.want {
			t.Errorf("TruckCount(%v) = %d, not %d", c.given, got, c.want)
		}
	}
	for _, given := range notLoadings() {
		if got := impl.TruckCount(given); got != -1 {
			t.Errorf("TruckCount(%v) = %d", given, got)
		}
	}
}

func TestTruckLoads(t *testing.T) {
	for _, c := range []struct {
		weights, given, want []int
	}{
		{nil, nil, nil}, {[]int{}, []int{}, nil}, {[]int{5}, []int{0}, []int{5}}, {[]int{5}, []int{2}, []int{0, 0, 5}},
		{[]int{6, 5, 4, 5}, []int{0, 1, 0, 1}, []int{10, 10}}, {[]int{6, 5, 4, 5}, []int{3, 1, 3, 3}, []int{0, 5, 0, 15}},
		{[]int{1000, 1000}, []int{0, 0}, []int{2000}}, {[]int{1, 1000}, []int{7, 6}, []int{0, 0, 0, 0, 0, 0, 1000, 1}},
		{slices.Repeat([]int{1000}, 8), make([]int, 8), []int{8000}}, {[]int{1, 2, 3, 4, 5, 6, 7, 8}, []int{7, 6, 5, 4, 3, 2, 1, 0}, []int{8, 7, 6, 5, 4, 3, 2, 1}},
	} {
		checkNumbers(t, fmt.Sprintf("TruckLoads(%v, %v)", c.weights, c.given), impl.TruckLoads(c.weights, c.given), c.want)
	}
	for _, c := range [][2][]int{
		{{5}, nil}, {nil, {0}}, {{5}, {0, 0}}, {{5, 5}, {0}}, {{6, 5, 4, 5}, {0}}, {{6, 5, 4, 5}, {0, 1, 0}}, {{6, 5, 4, 5}, {0, 1, 0, 1, 0}},
		{{0}, {0}}, {{1001}, {0}}, {{5, -1}, {0, 0}}, {{5, 1001}, {0, 0}}, {slices.Repeat([]int{1}, 9), make([]int, 8)}, {slices.Repeat([]int{1}, 9), make([]int, 9)},
	} {
		checkNumbers(t, fmt.Sprintf("TruckLoads(%v, %v)", c[0], c[1]), impl.TruckLoads(c[0], c[1]), nil)
	}
	for _, given := range notLoadings() {
		w := slices.Repeat([]int{1}, len(given))
		checkNumbers(t, fmt.Sprintf("TruckLoads(%v, %v)", w, given), impl.TruckLoads(w, given), nil)
		checkNumbers(t, fmt.Sprintf("TruckLoads(nil, %v)", given), impl.TruckLoads(nil, given), nil)
	}
}

func TestLoadingValid(t *testing.T) {
	w := []int{6, 5, 4, 5}
	for _, given := range [][]int{{0, 1, 0, 1}, {1, 0, 1, 0}, {7, 3, 7, 3}, {0, 1, 2, 3}, {4, 5, 6, 7}, {2, 0, 1, 0}} {
		if !impl.LoadingValid(w, 10, given) {
			t.Errorf("LoadingValid(%v, 10, %v) is false", w, given)
		}
	}
	for _, given := range [][]int{nil, {0}, {0, 1, 0}, {0, 1, 0, 1, 0}, {0, 1, 0, 1, 7}, {0, 0, 0, 1}, {0, 0, 1, 1}, {1, 1, 0, 2}, {0, 7, 7, 7}, {0, 1, 0, 8}, {0, 1, 0, -1}} {
		if impl.LoadingValid(w, 10, given) {
			t.Errorf("LoadingValid(%v, 10, %v) is true", w, given)
		}
	}
	for _, given := range notLoadings() {
		for _, w := range [][]int{slices.Repeat([]int{1}, len(given)), nil} {
			if impl.LoadingValid(w, 1000, given) {
				t.Errorf("LoadingValid(%v, 1000, %v) is true", w, given)
			}
		}
	}
	if !impl.LoadingValid(nil, 1, nil) || !impl.LoadingValid(nil, 1000, []int{}) || impl.LoadingValid(nil, 0, nil) || impl.LoadingValid(nil, 1001, nil) || impl.LoadingValid(nil, 1, []int{0}) {
		t.Error("LoadingValid without weights")
	}
	if impl.LoadingValid([]int{1000, 1}, 1000, []int{0, 0}) || !impl.LoadingValid([]int{999, 1}, 1000, []int{0, 0}) {
		t.Error("LoadingValid of a truck that is just full")
	}
}

// Of all loadings of few weights, those are valid whose trucks are not too heavy, and none of these has fewer trucks than the least.
func TestAllLoadings(t *testing.T) {
	for _, l := range sampleLoads() {
		if len(l.weights) > 4 {
			continue
		}
		least := 8
		for _, given := range loadingsOf(len(l.weights), 4) {
			var loads [4]int
			for i, truck := range given {
				loads[truck] += l.weights[i]
			}
			want := slices.Max(loads[:]) <= l.capacity
			if got := impl.LoadingValid(l.weights, l.capacity, given); got != want {
				t.Errorf("LoadingValid(%v, %d, %v) = %v", l.weights, l.capacity, given, got)
			}
			if want {
				least = min(least, impl.TruckCount(given))
			}
		}
		if got := impl.LeastTrucks(l.weights, l.capacity); got != least {
			t.Errorf("LeastTrucks(%v, %d) = %d, not %d", l.weights, l.capacity, got, least)
		}
	}
}

func TestLeastTrucks(t *testing.T) {
	for _, l := range sampleLoads() {
		if got, want := impl.LeastTrucks(l.weights, l.capacity), fewestByHand(l.weights, l.capacity); got != want {
			t.Errorf("LeastTrucks(%v, %d) = %d, not %d", l.weights, l.capacity, got, want)
		}
	}
	for _, c := range []struct {
		load
		want int
	}{
		{load{nil, 1}, 0}, {load{[]int{1}, 1}, 1}, {load{[]int{6, 5, 4, 5}, 10}, 2}, {load{[]int{4, 4, 6, 6}, 10}, 2},
		{load{[]int{10, 10, 10, 10, 10, 10, 10, 10}, 10}, 8}, {load{[]int{5, 5, 5, 5, 5, 5, 5, 5}, 10}, 4}, {load{[]int{6, 6, 6, 6, 6, 6, 6, 6}, 10}, 8},
		{load{[]int{5, 4, 4, 3, 2, 2}, 10}, 2}, // the greatest ones first would need three
	} {
		if got := impl.LeastTrucks(c.weights, c.capacity); got != c.want {
			t.Errorf("LeastTrucks(%v, %d) = %d, not %d", c.weights, c.capacity, got, c.want)
		}
	}
	if n := impl.TruckCount(impl.FitSorted([]int{5, 4, 4, 3, 2, 2}, 10)); n != 3 {
		t.Errorf("FitSorted needs %d trucks, not 3", n)
	}
}

// The results are spoiled, so that memory that they share with an argument shows.
func TestTrucksShareNoMemory(t *testing.T) {
	for _, list := range [][2][]int{{{6, 5, 4, 5}, {0, 1, 0, 1}}, {{1, 2, 3, 4, 5, 6, 7, 8}, {0, 1, 2, 3, 4, 5, 6, 7}}, {{10}, {0}}, {nil, nil}} {
		w, checkWeights := guarded(t, list[0])
		given, checkGiven := guarded(t, list[1])
		for what, numbers := range map[string]func() []int{
			"FirstFit":   func() []int { return impl.FirstFit(w, 10) },
			"FitSorted":  func() []int { return impl.FitSorted(w, 10) },
			"TruckLoads": func() []int { return impl.TruckLoads(w, given) },
		} {
			x := numbers()
			checkWeights(what)
			checkGiven(what)
			spoil(x)
			checkWeights(what + ", spoiled")
			checkGiven(what + ", spoiled")
		}
		impl.WeightsValid(w, 10)
		impl.TruckCount(given)
		impl.LoadingValid(w, 10, given)
		impl.LeastTrucks(w, 10)
		checkWeights("another function")
		checkGiven("another function")
	}
}

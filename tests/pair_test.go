package tests

import (
	"math"
	"slices"
	"testing"

	"loop.example/g00301/impl"
)

// twoOf are two Spots of a list by their numbers, and the square of their
// distance.
type twoOf struct{ apart, first, second int64 }

// allTwos come in order by the first number, then the second one.
func allTwos(list []spot) []twoOf {
	var all []twoOf
	for i := range list {
		for j := i + 1; j < len(list); j++ {
			all = append(all, twoOf{square(list[i], list[j]), int64(i), int64(j)})
		}
	}
	return all
}

func countUpTo(all []twoOf, most int64) int64 {
	count := int64(0)
	for _, two := range all {
		if two.apart <= most {
			count++
		}
	}
	return count
}

// spreadOf asks each Spot by itself, with all but itself.
func spreadOf(list []spot) []int64 {
	var all []int64
	for i, s := range list {
		least := int64(math.MaxInt64)
		for _, other := range slices.Concat(list[:i], list[i+1:]) {
			least = min(least, square(s, other))
		}
		all = append(all, least)
	}
	return all
}

func checkNearest(t *testing.T, list []spot, want twoOf) {
	t.Helper()
	if apart, first, second := impl.Nearest(list); (twoOf{apart, first, second}) != want {
		t.Fatalf("Nearest(%v) = %d, %d, %d, not %v", list, apart, first, second, want)
	}
}

func checkClose(t *testing.T, list []spot, most, want int64) {
	t.Helper()
	if got := impl.Close(list, most); got != want {
		t.Fatalf("Close(%v, %d) = %d, not %d", list, most, got, want)
	}
}

// checkPairs holds promise 6 and the words of the chapter, of two Spots and
// more.
func checkPairs(t *testing.T, list []spot) {
	t.Helper()
	all := allTwos(list)
	nearest, farthest := all[0], all[0]
	for _, two := range all {
		if two.apart < nearest.apart {
			nearest = two
		}
		if two.apart > farthest.apart {
			farthest = two
		}
	}
	checkNearest(t, list, nearest)
	if got := impl.Farthest(list); got != farthest.apart {
		t.Fatalf("Farthest(%v) = %d, not %d", list, got, farthest.apart)
	}
	if got, want := impl.Spread(list), spreadOf(list); !slices.Equal(got, want) {
		t.Fatalf("Spread(%v) = %v, not %v", list, got, want)
	}
	for _, most := range []int64{0, nearest.apart - 1, nearest.apart, nearest.apart + 1, (nearest.apart + farthest.apart) / 2, farthest.apart - 1, farthest.apart, farthest.apart + 1, math.MaxInt64} {
		if most >= 0 {
			checkClose(t, list, most, countUpTo(all, most))
		}
	}
	checkFarthestAreCorners(t, list, all)
}

func checkFarthestAreCorners(t *testing.T, list []spot, all []twoOf) {
	t.Helper()
	farthest, hull := impl.Farthest(list), impl.Hull(list)
	for _, two := range all {
		a, b := list[two.first], list[two.second]
		if two.apart == farthest && !(slices.Contains(hull, a) && slices.Contains(hull, b)) {
			t.Fatalf("Farthest(%v) = %d is that of %v and %v, but the corners are %v", list, farthest, a, b, hull)
		}
	}
	if len(hull) > 1 && impl.Farthest(hull) != farthest {
		t.Fatalf("Farthest(%v) = %d, but %d of its Hull", list, farthest, impl.Farthest(hull))
	}
}

func checkNoPairs(t *testing.T, list []spot) {
	t.Helper()
	checkNearest(t, list, twoOf{apart: -1})
	if got := impl.Farthest(list); got != -1 {
		t.Fatalf("Farthest(%v) = %d", list, got)
	}
	if got := impl.Spread(list); len(got) != 0 {
		t.Fatalf("Spread(%v) = %v", list, got)
	}
}

// mosts are numbers from 0 on, at the ends of what can be Apart and beyond.
func mosts() []int64 {
	return []int64{0, 1, 2, 255, 65025, 130049, 130050, 130051, 1 << 32, math.MaxInt64 - 1, math.MaxInt64}
}

func belowNought() []int64 {
	return []int64{-1, -2, -130050, -(1 << 32), math.MinInt64 + 1, math.MinInt64}
}

// checkWrongPairs asks for the fixed answers of what are no Spots.
func checkWrongPairs(t *testing.T, list []spot) {
	t.Helper()
	checkNoPairs(t, list)
	for _, most := range slices.Concat(mosts(), belowNought()) {
		checkClose(t, list, most, -1)
	}
}

func row(count int64, step spot) []spot {
	var list []spot
	for i := range count {
		list = append(list, spot{X: i * step.X, Y: i * step.Y})
	}
	return list
}

func gridCorners() []spot { return []spot{{}, {X: 255}, {X: 255, Y: 255}, {Y: 255}} }

func TestPairsOfAllSmallLists(t *testing.T) {
	for _, c := range []struct {
		window rect
		count  int
	}{{rect{Wide: 4, High: 4}, 2}, {rect{X: 252, Y: 252, Wide: 4, High: 4}, 3}, {rect{X: 252, Wide: 3, High: 3}, 4}, {rect{Y: 253, Wide: 2, High: 3}, 5}} {
		for list := range allLists(spotsOf(c.window), c.count) {
			checkPairs(t, list)
		}
	}
}

func TestPairsOfSomeSpots(t *testing.T) {
	asked, many := 0, 0
	for _, list := range someSpots(1400, 63) {
		if len(list) < 2 {
			continue
		}
		checkPairs(t, list)
		asked++
		if len(list) >= 30 {
			many++
		}
	}
	if asked < 1000 || many < 30 {
		t.Fatalf("%d lists, %d of them of many Spots", asked, many)
	}
}

func TestCloseAtEachApart(t *testing.T) {
	for _, list := range someSpots(70, 64) {
		all := allTwos(list)
		for _, two := range all {
			for most := max(two.apart-1, 0); most <= two.apart+1; most++ {
				checkClose(t, list, most, countUpTo(all, most))
			}
		}
	}
}

// Another order gives the Spots other numbers, but no other distances.
func TestPairsOfSpotsToldOtherwise(t *testing.T) {
	next := someRule(65)
	for _, list := range someSpots(280, 66) {
		if len(list) < 2 {
			continue
		}
		other := scrambled(list, next)
		apart, _, _ := impl.Nearest(list)
		again, _, _ := impl.Nearest(other)
		if again != apart || impl.Farthest(other) != impl.Farthest(list) || impl.Close(other, 9) != impl.Close(list, 9) {
			t.Fatalf("%v and %v are not alike", list, other)
		}
		was, now := impl.Spread(list), impl.Spread(other)
		if slices.Min(was) != apart {
			t.Fatalf("Spread(%v) = %v, but Nearest is %d", list, was, apart)
		}
		slices.Sort(was)
		slices.Sort(now)
		if !slices.Equal(was, now) {
			t.Fatalf("Spread(%v) and Spread(%v) are not alike", list, other)
		}
	}
}

func TestNearestOfPairsThatAreAlike(t *testing.T) {
	a, b := spot{X: 10, Y: 10}, spot{X: 200, Y: 200}
	cases := []struct {
		name string
		list []spot
		want twoOf
	}{
		{"the least second number", []spot{a, b, {X: 10, Y: 12}, {X: 12, Y: 10}}, twoOf{4, 0, 2}},
		{"the least first number, not the least second one", []spot{a, b, {X: 201, Y: 200}, {X: 10, Y: 11}}, twoOf{1, 0, 3}},
		{"the least first number, not the last one", []spot{{Y: 99}, a, {X: 11, Y: 10}, b, {X: 201, Y: 200}}, twoOf{1, 1, 2}},
		{"one that is told backwards", []spot{{Y: 99}, b, {X: 11, Y: 10}, {X: 200, Y: 199}, a}, twoOf{1, 1, 3}},
		{"nearer ones come ahead of less numbers", []spot{a, {X: 10, Y: 12}, b, {X: 200, Y: 199}}, twoOf{1, 2, 3}},
		{"alike ones come ahead of less numbers", []spot{a, {X: 10, Y: 11}, b, {X: 99}, b}, twoOf{0, 2, 4}},
		{"alike ones twice", []spot{{X: 99}, b, a, a, b}, twoOf{0, 1, 4}},
		{"three alike", []spot{{X: 99}, a, b, a, a}, twoOf{0, 1, 3}},
		{"the same square by other ways", []spot{{X: 99, Y: 99}, {}, {X: 3, Y: 4}, b, {X: 200, Y: 205}}, twoOf{25, 1, 2}},
		{"a square's four sides", gridCorners(), twoOf{65025, 0, 1}},
	}
	for _, c := range cases {
		if apart, first, second := impl.Nearest(c.list); (twoOf{apart, first, second}) != c.want {
			t.Errorf("%s: Nearest(%v) = %d, %d, %d, not %v", c.name, c.list, apart, first, second, c.want)
		}
		checkPairs(t, c.list)
	}
}

// No Spot and one are right Spots without a pair: Close counts none, and the
// others want two at least.
func TestPairsOfNoSpotAndOne(t *testing.T) {
	for _, list := range [][]spot{nil, {}, {{}}, {{X: 7, Y: 9}}, {{X: 255, Y: 255}}} {
		checkNoPairs(t, list)
		for _, most := range mosts() {
			checkClose(t, list, most, 0)
		}
		for _, most := range belowNought() {
			checkClose(t, list, most, -1)
		}
	}
}

func TestPairsNamedEdges(t *testing.T) {
	last := spot{X: 255, Y: 255}
	cases := []struct {
		name     string
		list     []spot
		nearest  twoOf
		farthest int64
		spread   []int64
	}{
		{"two", []spot{{X: 9, Y: 1}, {X: 2, Y: 5}}, twoOf{65, 0, 1}, 65, []int64{65, 65}},
		{"two next to each other", []spot{{X: 9, Y: 1}, {X: 9, Y: 2}}, twoOf{1, 0, 1}, 1, []int64{1, 1}},
		{"two alike", []spot{{X: 9, Y: 1}, {X: 9, Y: 1}}, twoOf{0, 0, 1}, 0, []int64{0, 0}},
		{"the grid's first and last", []spot{last, {}}, twoOf{130050, 0, 1}, 130050, []int64{130050, 130050}},
		{"the grid's corners", gridCorners(), twoOf{65025, 0, 1}, 130050, []int64{65025, 65025, 65025, 65025}},
		{"the grid's corners, crosswise", []spot{{}, last, {X: 255}, {Y: 255}}, twoOf{65025, 0, 2}, 130050, []int64{65025, 65025, 65025, 65025}},
		{"alike ones and another", []spot{{X: 4}, {X: 1}, {X: 4}}, twoOf{0, 0, 2}, 9, []int64{0, 9, 0}},
		{"40 alike", slices.Repeat([]spot{last}, 40), twoOf{0, 0, 1}, 0, make([]int64, 40)},
		{"on a level line", []spot{{X: 5, Y: 3}, {X: 9, Y: 3}, {X: 2, Y: 3}, {X: 11, Y: 3}}, twoOf{4, 1, 3}, 81, []int64{9, 4, 9, 4}},
		{"on an upright line", []spot{{X: 5, Y: 250}, {X: 5}, {X: 5, Y: 100}}, twoOf{10000, 1, 2}, 62500, []int64{22500, 10000, 10000}},
		{"on a slanting line", []spot{{X: 9, Y: 9}, {X: 4, Y: 4}, {X: 2, Y: 2}}, twoOf{8, 1, 2}, 98, []int64{50, 8, 8}},
		{"on a line that falls", []spot{{Y: 6}, {X: 3, Y: 4}, {X: 9}}, twoOf{13, 0, 1}, 117, []int64{13, 13, 52}},
		{"one far from all", []spot{{X: 255}, {Y: 1}, {}}, twoOf{1, 1, 2}, 65026, []int64{65025, 1, 1}},
	}
	for _, c := range cases {
		checkPairs(t, c.list)
		if apart, first, second := impl.Nearest(c.list); (twoOf{apart, first, second}) != c.nearest {
			t.Errorf("%s: Nearest(%v) = %d, %d, %d, not %v", c.name, c.list, apart, first, second, c.nearest)
		}
		if got := impl.Farthest(c.list); got != c.farthest {
			t.Errorf("%s: Farthest(%v) = %d, not %d", c.name, c.list, got, c.farthest)
		}
		if got := impl.Spread(c.list); !slices.Equal(got, c.spread) {
			t.Errorf("%s: Spread(%v) = %v, not %v", c.name, c.list, got, c.spread)
		}
	}
}

func TestCloseNamedEdges(t *testing.T) {
	three := []spot{{X: 4}, {X: 1}, {X: 4}}
	cases := []struct {
		list       []spot
		most, want int64
	}{
		{three, 0, 1}, {three, 8, 1}, {three, 9, 3}, {three, math.MaxInt64, 3},
		{gridCorners(), 0, 0}, {gridCorners(), 65024, 0}, {gridCorners(), 65025, 4}, {gridCorners(), 130049, 4}, {gridCorners(), 130050, 6}, {gridCorners(), 130051, 6},
		{slices.Repeat([]spot{{X: 9}}, 40), 0, 780}, {row(40, spot{X: 1}), 0, 0}, {row(40, spot{X: 1}), 1, 39}, {row(40, spot{X: 1}), 4, 77},
		{row(40, spot{X: 6, Y: 6}), 71, 0}, {row(40, spot{X: 6, Y: 6}), 72, 39}, {row(40, spot{Y: 1}), 1521, 780}, {row(40, spot{Y: 1}), 1520, 779},
	}
	for _, c := range cases {
		checkClose(t, c.list, c.most, c.want)
	}
	for _, list := range append(someSpots(70, 67), three, gridCorners(), row(40, spot{X: 1})) {
		for _, most := range belowNought() {
			checkClose(t, list, most, -1)
		}
		for _, most := range mosts() {
			checkClose(t, list, most, countUpTo(allTwos(list), most))
		}
	}
}

func TestPairsOfFortyAndFortyOne(t *testing.T) {
	for _, all := range [][]spot{row(48, spot{X: 5}), row(48, spot{Y: 3}), row(48, spot{X: 5, Y: 4}), slices.Repeat([]spot{{X: 3}}, 48), make([]spot, 48), wheel()} {
		checkPairs(t, all[:39])
		checkPairs(t, all[:40])
		checkPairs(t, scrambled(all[:40], someRule(68)))
		for _, n := range []int{41, 42, 48} {
			checkWrongPairs(t, all[:n])
		}
	}
	checkWrongPairs(t, make([]spot, 100000))
}

func TestWrongSpotsHaveNoPairs(t *testing.T) {
	next := someRule(69)
	for _, s := range wrongSpots() {
		checkWrongPairs(t, []spot{s})
		checkWrongPairs(t, []spot{s, s})
		for _, n := range []int{1, 2, 3, 7, 39} {
			for _, i := range []int64{0, next(int64(n)), int64(n)} {
				checkWrongPairs(t, slices.Insert(slices.Clone(wheel()[:n]), int(i), s))
			}
		}
	}
	least, greatest := int64(math.MinInt64), int64(math.MaxInt64)
	checkWrongPairs(t, []spot{{X: least, Y: least}, {X: greatest, Y: greatest}})
	checkWrongPairs(t, []spot{{}, {X: 256}, {X: 256, Y: 256}, {Y: 256}})
	checkWrongPairs(t, []spot{{X: -1}, {}, {X: 1}})
}

func TestPairArgumentsStayAndAnswersAreNew(t *testing.T) {
	lists := append(someSpots(210, 70), nil, wheel()[:40], wheel()[:41], wrongSpots(), []spot{{X: 9, Y: 9}}, gridCorners())
	for _, list := range lists {
		all := slices.Concat(list, slices.Repeat([]spot{{X: 111, Y: 222}}, 2*impl.MaxSpots+5))
		was := slices.Clone(all)
		given := all[:len(list)]
		first, second := impl.Spread(given), impl.Spread(given)
		want := slices.Clone(first)
		first = first[:cap(first)]
		for i := range first {
			first[i] = math.MinInt64
		}
		impl.Nearest(given)
		impl.Farthest(given)
		impl.Close(given, 100)
		if !slices.Equal(all, was) {
			t.Fatalf("%v was changed, or the room behind it", list)
		}
		if !slices.Equal(second, want) || !slices.Equal(impl.Spread(given), want) {
			t.Fatalf("Spread(%v) shares its memory", list)
		}
	}
}

package tests

import (
	"math"
	"math/bits"
	"slices"
	"testing"

	"loop.example/g00301/impl"
)

// looked is, for each set of Rects (a bit for each number), how many Spots are
// in just these: found by going from Spot to Spot.
func looked(list []rect) map[uint]int64 {
	all := map[uint]int64{}
	if len(list) == 0 {
		return all
	}
	box := list[0]
	for _, r := range list {
		box = boxOf([]spot{{X: box.X, Y: box.Y}, {X: box.X + box.Wide - 1, Y: box.Y + box.High - 1}, {X: r.X, Y: r.Y}, {X: r.X + r.Wide - 1, Y: r.Y + r.High - 1}})
	}
	for _, s := range spotsOf(box) {
		set := uint(0)
		for i, r := range list {
			if isIn(r, s) {
				set |= 1 << i
			}
		}
		all[set]++
	}
	delete(all, 0)
	return all
}

// layered is what the four functions answer of Rects.
type layered struct {
	together, deepest int64
	touching          [][]int64
	depths            []int64
}

func asked(list []rect) layered {
	return layered{impl.Together(list), impl.Deepest(list), impl.Touching(list), impl.Depths(list)}
}

func (a layered) alike(b layered) bool {
	return a.together == b.together && a.deepest == b.deepest && slices.EqualFunc(a.touching, b.touching, slices.Equal) && slices.Equal(a.depths, b.depths)
}

func layersOf(list []rect) layered {
	all := layered{depths: make([]int64, len(list))}
	sets := looked(list)
	for set, count := range sets {
		deep := bits.OnesCount(set)
		all.together += count
		all.deepest = max(all.deepest, int64(deep))
		all.depths[deep-1] += count
	}
	for i := range list {
		for j := i + 1; j < len(list); j++ {
			two := uint(1)<<i | uint(1)<<j
			for set := range sets {
				if set&two == two {
					all.touching = append(all.touching, []int64{int64(i), int64(j)})
					break
				}
			}
		}
	}
	return all
}

// shared is how many Spots all of them have, of one Rect at least.
func shared(list ...rect) int64 {
	wide := func(r rect) (int64, int64) { return r.X, r.X + r.Wide }
	high := func(r rect) (int64, int64) { return r.Y, r.Y + r.High }
	count := int64(1)
	for _, side := range []func(r rect) (int64, int64){wide, high} {
		from, past := side(list[0])
		for _, r := range list {
			begin, end := side(r)
			from, past = max(from, begin), min(past, end)
		}
		count *= max(past-from, 0)
	}
	return count
}

// inAndOut is what each has, less what each two share, and what each three
// share, and so on: promise 7 in full.
func inAndOut(list []rect) int64 {
	sum := int64(0)
	for set := uint(1); set < 1<<len(list); set++ {
		var some []rect
		for i, r := range list {
			if set>>i&1 == 1 {
				some = append(some, r)
			}
		}
		if len(some)%2 == 1 {
			sum += shared(some...)
		} else {
			sum -= shared(some...)
		}
	}
	return sum
}

func checkLayers(t *testing.T, list []rect) {
	t.Helper()
	if got, want := asked(list), layersOf(list); !got.alike(want) {
		t.Fatalf("of %v: %v, not %v", list, got, want)
	}
}

func checkPromiseSeven(t *testing.T, list []rect) {
	t.Helper()
	if got, want := impl.Together(list), inAndOut(list); got != want {
		t.Fatalf("Together(%v) = %d, not %d", list, got, want)
	}
}

// checkNoLayers asks for the fixed answers of what are no Rects.
func checkNoLayers(t *testing.T, list []rect) {
	t.Helper()
	if got := asked(list); !got.alike(layered{together: -1, deepest: -1}) {
		t.Fatalf("of %v: %v", list, got)
	}
}

// someLayers are lists of 0 to 12 Rects by a fixed rule: all over the grid, or
// so close together that many are alike, side by side, or within others.
func someLayers(n int, seed uint32) [][]rect {
	next := someRule(seed)
	all := make([][]rect, n)
	for i := range all {
		side := []int64{1, 2, 3, 5, 8, 30, 256}[i%7]
		left, low := next(257-side), next(257-side)
		for range next(13) {
			x, y := next(side), next(side)
			all[i] = append(all[i], rect{X: left + x, Y: low + y, Wide: 1 + next(side-x), High: 1 + next(side-y)})
		}
	}
	return all
}

func wholeRect() rect { return rect{Wide: 256, High: 256} }

// rowOf are Rects of one size, each so much further than the one ahead of it.
func rowOf(count int, first rect, across, up int64) []rect {
	var list []rect
	for i := range int64(count) {
		list = append(list, rect{X: first.X + i*across, Y: first.Y + i*up, Wide: first.Wide, High: first.High})
	}
	return list
}

// nested are Rects each of which lies in the one ahead of it, from the whole
// grid on.
func nested(count int) []rect {
	var list []rect
	for i := range int64(count) {
		list = append(list, rect{X: 3 * i, Y: 2 * i, Wide: 256 - 8*i, High: 256 - 9*i})
	}
	return list
}

// ringsOf is, of Rects each of which lies in the one ahead of it, what each has
// beside the next.
func ringsOf(list []rect) []int64 {
	var all []int64
	for i, r := range list {
		ring := shared(r)
		if i+1 < len(list) {
			ring -= shared(list[i+1])
		}
		all = append(all, ring)
	}
	return all
}

func gridCornerRects(side int64) []rect {
	far := 256 - side
	return []rect{{Wide: side, High: side}, {X: far, Wide: side, High: side}, {X: far, Y: far, Wide: side, High: side}, {Y: far, Wide: side, High: side}}
}

// allPairs are the numbers of all pairs of so many.
func allPairs(count int64) [][]int64 {
	var all [][]int64
	for i := range count {
		for j := i + 1; j < count; j++ {
			all = append(all, []int64{i, j})
		}
	}
	return all
}

// deepOf are so many numbers, all nought but the last one.
func deepOf(count int, last int64) []int64 {
	all := make([]int64, count)
	all[count-1] = last
	return all
}

func TestTogetherOfTwo(t *testing.T) {
	check := func(a, b rect) {
		want := impl.Area(a) + impl.Area(b) - shared(a, b)
		if got := impl.Together([]rect{a, b}); got != want {
			t.Fatalf("Together of %v and %v = %d, not %d", a, b, got, want)
		}
	}
	for _, window := range windows() {
		for _, a := range rectsIn(window) {
			for _, b := range rectsIn(window) {
				check(a, b)
				checkLayers(t, []rect{a, b})
			}
		}
	}
	list := greatRects(100)
	for _, a := range list {
		for _, b := range list {
			check(a, b)
		}
	}
}

func TestTogetherOfThree(t *testing.T) {
	check := func(a, b, c rect) {
		want := impl.Area(a) + impl.Area(b) + impl.Area(c) - shared(a, b) - shared(a, c) - shared(b, c) + shared(a, b, c)
		if got := impl.Together([]rect{a, b, c}); got != want {
			t.Fatalf("Together of %v, %v and %v = %d, not %d", a, b, c, got, want)
		}
	}
	for _, list := range [][]rect{rectsIn(rect{X: 253, Y: 253, Wide: 3, High: 3}), rectsIn(rect{Wide: 2, High: 3})} {
		for _, a := range list {
			for _, b := range list {
				for _, c := range list {
					check(a, b, c)
					checkLayers(t, []rect{a, b, c})
				}
			}
		}
	}
	list := greatRects(30)
	for _, a := range list {
		for _, b := range list {
			for _, c := range list {
				check(a, b, c)
			}
		}
	}
}

// All of a small window, so that no way in which four can lie is left out.
func TestLayersOfAllFoursOfTwoByTwo(t *testing.T) {
	list := rectsIn(rect{X: 254, Y: 0, Wide: 2, High: 2})
	for _, a := range list {
		for _, b := range list {
			for _, c := range list {
				for _, d := range list {
					checkLayers(t, []rect{a, b, c, d})
					checkPromiseSeven(t, []rect{a, b, c, d})
				}
			}
		}
	}
}

func TestLayersOfSomeRects(t *testing.T) {
	var counts [13]int
	deep := 0
	for _, list := range someLayers(1400, 71) {
		checkLayers(t, list)
		counts[len(list)]++
		if impl.Deepest(list) >= 6 {
			deep++
		}
	}
	if slices.Min(counts[:]) < 30 || deep < 100 {
		t.Fatalf("%v lists by how many Rects they have, %d of them deep", counts, deep)
	}
}

func TestTogetherIsInAndOut(t *testing.T) {
	for _, list := range append(someLayers(280, 72), greatRects(12), nested(12), rowOf(12, rect{Wide: 20, High: 30}, 7, 11)) {
		checkPromiseSeven(t, list)
	}
}

// Each Rect adds one to the depth of each of its Spots.
func TestDepthsHaveAllThatEachHas(t *testing.T) {
	for _, list := range someLayers(700, 73) {
		each, deep := int64(0), int64(0)
		for _, r := range list {
			each += impl.Area(r)
		}
		for i, some := range impl.Depths(list) {
			deep += int64(i+1) * some
		}
		if each != deep {
			t.Fatalf("Depths(%v) = %v tell of %d, but each by itself has %d together", list, impl.Depths(list), deep, each)
		}
	}
}

func TestTouchingIsWhatMeets(t *testing.T) {
	for _, list := range someLayers(700, 74) {
		var want [][]int64
		for _, two := range allPairs(int64(len(list))) {
			if _, is := impl.Meet(list[two[0]], list[two[1]]); is {
				want = append(want, two)
			}
		}
		if got := impl.Touching(list); !slices.EqualFunc(got, want, slices.Equal) {
			t.Fatalf("Touching(%v) = %v, not %v", list, got, want)
		}
	}
}

// Another order gives the Rects other numbers, but leaves them where they lie.
func TestLayersOfRectsToldOtherwise(t *testing.T) {
	for _, list := range someLayers(280, 75) {
		other := slices.Clone(list)
		slices.Reverse(other)
		was, now := asked(list), asked(other)
		var turned [][]int64
		last := int64(len(list)) - 1
		for _, two := range now.touching {
			turned = append(turned, []int64{last - two[1], last - two[0]})
		}
		slices.SortFunc(turned, slices.Compare)
		now.touching = turned
		if !was.alike(now) {
			t.Fatalf("%v: %v, but backwards %v", list, was, now)
		}
	}
}

func TestLayersNamedEdges(t *testing.T) {
	whole, a := wholeRect(), rect{X: 10, Y: 20, Wide: 3, High: 4}
	cases := []struct {
		name string
		list []rect
		want layered
	}{
		{"none", nil, layered{}},
		{"none, not nil", []rect{}, layered{}},
		{"one", []rect{a}, layered{12, 1, nil, []int64{12}}},
		{"one Spot", []rect{{X: 9, Wide: 1, High: 1}}, layered{1, 1, nil, []int64{1}}},
		{"the whole grid", []rect{whole}, layered{65536, 1, nil, []int64{65536}}},
		{"two alike", []rect{a, a}, layered{12, 2, allPairs(2), []int64{0, 12}}},
		{"three alike", []rect{a, a, a}, layered{12, 3, allPairs(3), []int64{0, 0, 12}}},
		{"12 alike", slices.Repeat([]rect{a}, 12), layered{12, 12, allPairs(12), deepOf(12, 12)}},
		{"12 times the whole grid", slices.Repeat([]rect{whole}, 12), layered{65536, 12, allPairs(12), deepOf(12, 65536)}},
		{"two alike, and one between", []rect{a, {Wide: 2, High: 2}, a}, layered{16, 2, [][]int64{{0, 2}}, []int64{4, 12, 0}}},
		{"side by side", []rect{a, {X: 13, Y: 20, Wide: 2, High: 4}}, layered{20, 1, nil, []int64{20, 0}}},
		{"side by side, told backwards", []rect{{X: 13, Y: 20, Wide: 2, High: 4}, a}, layered{20, 1, nil, []int64{20, 0}}},
		{"one above the other", []rect{a, {X: 10, Y: 24, Wide: 3, High: 1}}, layered{15, 1, nil, []int64{15, 0}}},
		{"corner to corner", []rect{a, {X: 13, Y: 24, Wide: 5, High: 5}}, layered{37, 1, nil, []int64{37, 0}}},
		{"one Spot of the corner shared", []rect{a, {X: 12, Y: 23, Wide: 5, High: 5}}, layered{36, 2, allPairs(2), []int64{35, 1}}},
		{"the same columns far apart", []rect{a, {X: 10, Y: 100, Wide: 3, High: 4}}, layered{24, 1, nil, []int64{24, 0}}},
		{"the same rows far apart", []rect{a, {X: 100, Y: 20, Wide: 3, High: 4}}, layered{24, 1, nil, []int64{24, 0}}},
		{"a row of 12 with no Spot between", rowOf(12, rect{Wide: 3, High: 2}, 3, 0), layered{72, 1, nil, append([]int64{72}, make([]int64, 11)...)}},
		{"one within the other", []rect{a, {X: 11, Y: 21, Wide: 1, High: 2}}, layered{12, 2, allPairs(2), []int64{10, 2}}},
		{"one around the other", []rect{{X: 11, Y: 21, Wide: 1, High: 2}, a}, layered{12, 2, allPairs(2), []int64{10, 2}}},
		{"one within, at its corner", []rect{a, {X: 12, Y: 23, Wide: 1, High: 1}}, layered{12, 2, allPairs(2), []int64{11, 1}}},
		{"two within, apart from each other", []rect{a, {X: 10, Y: 20, Wide: 1, High: 1}, {X: 12, Y: 23, Wide: 1, High: 1}}, layered{12, 2, [][]int64{{0, 1}, {0, 2}}, []int64{10, 2, 0}}},
		{"one within the whole grid", []rect{whole, a}, layered{65536, 2, allPairs(2), []int64{65524, 12}}},
		{"a cross", []rect{{X: 4, Wide: 1, High: 9}, {Y: 4, Wide: 9, High: 1}}, layered{17, 2, allPairs(2), []int64{16, 1}}},
		{"a ring of four", []rect{{Wide: 5, High: 1}, {Wide: 1, High: 5}, {X: 4, Wide: 1, High: 5}, {Y: 4, Wide: 5, High: 1}}, layered{16, 2, [][]int64{{0, 1}, {0, 2}, {1, 3}, {2, 3}}, []int64{12, 4, 0, 0}}},
		{"the grid's corners", gridCornerRects(1), layered{4, 1, nil, []int64{4, 0, 0, 0}}},
		{"the grid's corners, half of it", gridCornerRects(128), layered{65536, 1, nil, []int64{65536, 0, 0, 0}}},
		{"the grid's corners, more than half", gridCornerRects(129), layered{65536, 4, allPairs(4), []int64{65536 - 4*254 - 4, 4 * 254, 0, 4}}},
		{"the grid's corners, and the whole grid", append(gridCornerRects(1), whole), layered{65536, 2, [][]int64{{0, 4}, {1, 4}, {2, 4}, {3, 4}}, []int64{65532, 4, 0, 0, 0}}},
		{"the grid's four sides", []rect{{Wide: 256, High: 1}, {Y: 255, Wide: 256, High: 1}, {Wide: 1, High: 256}, {X: 255, Wide: 1, High: 256}}, layered{1020, 2, [][]int64{{0, 2}, {0, 3}, {1, 2}, {1, 3}}, []int64{1016, 4, 0, 0}}},
		{"the first Spot and the last", []rect{{X: 255, Y: 255, Wide: 1, High: 1}, {Wide: 1, High: 1}}, layered{2, 1, nil, []int64{2, 0}}},
		{"12 each within the one ahead", nested(12), layered{65536, 12, allPairs(12), ringsOf(nested(12))}},
	}
	for _, c := range cases {
		if got := asked(c.list); !got.alike(c.want) {
			t.Errorf("%s: of %v: %v, not %v", c.name, c.list, got, c.want)
		}
		checkLayers(t, c.list)
		checkPromiseSeven(t, c.list)
	}
}

func TestLayersOfTwelveAndThirteen(t *testing.T) {
	for _, all := range [][]rect{rowOf(20, rect{Wide: 3, High: 2}, 3, 0), rowOf(20, rect{Wide: 9, High: 40}, 4, 1), slices.Repeat([]rect{wholeRect()}, 20), greatRects(20), nested(20)} {
		for _, n := range []int{11, 12} {
			checkLayers(t, all[:n])
			checkPromiseSeven(t, all[:n])
		}
		for _, n := range []int{13, 14, 20} {
			checkNoLayers(t, all[:n])
		}
	}
	checkNoLayers(t, slices.Repeat([]rect{{X: 5, Y: 5, Wide: 1, High: 1}}, 13))
	checkNoLayers(t, slices.Repeat([]rect{wholeRect()}, 100000))
}

func TestWrongRectsHaveNoLayers(t *testing.T) {
	for _, wrong := range wrongRects() {
		checkNoLayers(t, []rect{wrong})
		checkNoLayers(t, []rect{wrong, wrong})
		checkNoLayers(t, slices.Repeat([]rect{wrong}, 12))
		checkNoLayers(t, slices.Repeat([]rect{wrong}, 13))
		for _, n := range []int{1, 2, 3, 11} {
			for i := range n + 1 {
				checkNoLayers(t, slices.Insert(greatRects(20)[4:4+n], i, wrong))
			}
		}
	}
	checkNoLayers(t, wrongRects()[:12])
	checkNoLayers(t, wrongRects())
}

// What was asked ahead of it leaves nothing behind.
func TestLayersHangOnTheirRectsAlone(t *testing.T) {
	lists := append(someLayers(70, 76), []rect{{}}, slices.Repeat([]rect{wholeRect()}, 12), nil)
	var first []layered
	for _, list := range lists {
		first = append(first, asked(list))
	}
	for i := len(lists) - 1; i >= 0; i-- {
		if got := asked(lists[i]); !got.alike(first[i]) {
			t.Fatalf("of %v: %v, but %v at first", lists[i], got, first[i])
		}
	}
}

// spoilLayers writes into all of an answer, its spare room as well.
func spoilLayers(all layered) {
	spoilNumbers := func(list []int64) {
		list = list[:cap(list)]
		for i := range list {
			list[i] = math.MinInt64
		}
	}
	spoilNumbers(all.depths)
	for _, two := range all.touching {
		spoilNumbers(two)
	}
	clear(all.touching[:cap(all.touching)])
}

func TestLayerArgumentsStayAndAnswersAreNew(t *testing.T) {
	lists := append(someLayers(210, 77), nil, wrongRects(), nested(12), nested(13), []rect{wholeRect()}, greatRects(12))
	for _, list := range lists {
		all := slices.Concat(list, slices.Repeat([]rect{{X: 111, Y: 122, Wide: 33, High: 44}}, 30))
		was := slices.Clone(all)
		given := all[:len(list)]
		first, second, want := asked(given), asked(given), asked(slices.Clone(list))
		spoilLayers(first)
		if !slices.Equal(all, was) {
			t.Fatalf("%v was changed, or the room behind it", list)
		}
		if !second.alike(want) || !asked(given).alike(want) {
			t.Fatalf("of %v: an answer shares its memory", list)
		}
	}
}

// Each pair of an answer is a list of its own: what is written into one, or
// put behind it, is not seen in another one.
func TestTouchingPairsShareNoMemory(t *testing.T) {
	want := allPairs(12)
	for i := range want {
		got := impl.Touching(nested(12))
		room := got[i][:cap(got[i])]
		for j := range room {
			room[j] = math.MinInt64
		}
		got[i] = want[i]
		if !slices.EqualFunc(got, want, slices.Equal) {
			t.Fatalf("pair %d shares its memory: %v", i, got)
		}
	}
}

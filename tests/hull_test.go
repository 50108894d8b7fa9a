package tests

import (
	"cmp"
	"math"
	"slices"
	"testing"

	"loop.example/g00301/impl"
)

// isBetween asks whether s is one of two Spots, or on the line between them.
func isBetween(a, b, s spot) bool {
	along := (s.X-a.X)*(s.X-b.X) + (s.Y-a.Y)*(s.Y-b.Y)
	return leftOf(a, b, s) == 0 && along <= 0
}

func inTriangle(a, b, c, s spot) bool {
	around := leftOf(a, b, c)
	return around != 0 && around*leftOf(a, b, s) >= 0 && around*leftOf(b, c, s) >= 0 && around*leftOf(c, a, s) >= 0
}

// isAmong asks whether s is in the least convex shape with all of these: what
// is in it is in one with at most three of them for corners.
func isAmong(list []spot, s spot) bool {
	for i, a := range list {
		for j, b := range list[:i+1] {
			if isBetween(a, b, s) {
				return true
			}
			for _, c := range list[:j] {
				if inTriangle(a, b, c, s) {
					return true
				}
			}
		}
	}
	return false
}

// hullOf takes the Spots that are not among the others. All of them lie to the
// right of the first, or above it: who looks from there sees them in order.
func hullOf(list []spot) []spot {
	var unlike, hull []spot
	for _, s := range list {
		if !slices.Contains(unlike, s) {
			unlike = append(unlike, s)
		}
	}
	for i, s := range unlike {
		if !isAmong(slices.Concat(unlike[:i], unlike[i+1:]), s) {
			hull = append(hull, s)
		}
	}
	for i, s := range hull {
		if s.X < hull[0].X || s.X == hull[0].X && s.Y < hull[0].Y {
			hull[0], hull[i] = s, hull[0]
		}
	}
	if len(hull) > 2 {
		slices.SortFunc(hull[1:], func(a, b spot) int { return cmp.Compare(0, leftOf(hull[0], a, b)) })
	}
	return hull
}

func weights() []int64 { return []int64{-1000, -999, -255, -7, -1, 0, 1, 2, 128, 999, 1000} }

// greatestOf weighs all of them and takes the last in order.
func greatestOf(list []spot, a, b int64) int64 {
	var all []int64
	for _, s := range list {
		all = append(all, a*s.X+b*s.Y)
	}
	slices.Sort(all)
	return all[len(all)-1]
}

// checkPromise holds promise 5: the Hull has all, is convex, and what is
// Extreme is so at one of its corners.
func checkPromise(t *testing.T, list []spot) {
	t.Helper()
	hull := impl.Hull(list)
	if !impl.HullOk(hull) {
		t.Fatalf("HullOk(%v) is false, the Hull of %v", hull, list)
	}
	for _, s := range hull {
		if !slices.Contains(list, s) {
			t.Fatalf("Hull(%v) = %v: none of them", list, hull)
		}
	}
	for _, s := range list {
		if !impl.InHull(hull, s) {
			t.Fatalf("Hull(%v) = %v has no %v", list, hull, s)
		}
	}
	if len(hull) > 2 {
		for i, s := range hull {
			next, last := hull[(i+1)%len(hull)], hull[(i+2)%len(hull)]
			if leftOf(s, next, last) != 1 {
				t.Fatalf("Hull(%v) = %v is not convex at %v", list, hull, next)
			}
		}
	}
	for i, a := range weights() {
		b := weights()[(i*i+len(list))%len(weights())]
		want := greatestOf(hull, a, b)
		if got := impl.Extreme(list, a, b); got != want || got != impl.Extreme(hull, a, b) {
			t.Fatalf("Extreme(%v, %d, %d) = %d; at the corners it is %d", list, a, b, got, want)
		}
	}
}

func checkHull(t *testing.T, list []spot) {
	t.Helper()
	want := hullOf(list)
	if got := impl.Hull(list); !slices.Equal(got, want) {
		t.Fatalf("Hull(%v) = %v, not %v", list, got, want)
	}
	if got := impl.HullOk(list); got != slices.Equal(list, want) {
		t.Fatalf("HullOk(%v) = %v", list, got)
	}
	checkPromise(t, list)
}

// checkNoSpots asks for the fixed answers of what are no Spots.
func checkNoSpots(t *testing.T, list []spot) {
	t.Helper()
	if got := impl.Hull(list); len(got) != 0 {
		t.Fatalf("Hull(%v) = %v", list, got)
	}
	if impl.HullOk(list) {
		t.Fatalf("HullOk(%v)", list)
	}
	for _, s := range append(list, spot{}, spot{X: 3, Y: 3}) {
		if impl.InHull(list, s) {
			t.Fatalf("InHull(%v, %v)", list, s)
		}
	}
	if got := impl.Extreme(list, 0, 0); got != -1 {
		t.Fatalf("Extreme(%v, 0, 0) = %d", list, got)
	}
	if got := impl.Extreme(list, 1000, -1000); got != -1 {
		t.Fatalf("Extreme(%v, 1000, -1000) = %d", list, got)
	}
}

func scrambled(list []spot, next func(below int64) int64) []spot {
	list = slices.Clone(list)
	for i := range list {
		j := next(int64(i + 1))
		list[i], list[j] = list[j], list[i]
	}
	return list
}

// someSpots are lists of 1 to 40 Spots by a fixed rule: all over the grid, or
// so close together that many are alike or on one line.
func someSpots(n int, seed uint32) [][]spot {
	next := someRule(seed)
	var all [][]spot
	for i := range n {
		side := []int64{1, 2, 3, 5, 8, 30, 256}[i%7]
		x, y := next(257-side), next(257-side)
		var list []spot
		for range 1 + next(int64(1+i%impl.MaxSpots)) {
			list = append(list, spot{X: x + next(side), Y: y + next(side)})
		}
		all = append(all, list)
	}
	return all
}

// wheel is convex with 48 corners: it goes each way of at most 4 across and up
// that no shorter one goes, one after the other to the left around.
func wheel() []spot {
	var ways []spot
	for _, w := range spotsOf(rect{X: -4, Y: -4, Wide: 9, High: 9}) {
		shorter := false
		for n := int64(2); n <= 4; n++ {
			shorter = shorter || w.X%n == 0 && w.Y%n == 0
		}
		if !shorter {
			ways = append(ways, w)
		}
	}
	slices.SortFunc(ways, func(a, b spot) int {
		return cmp.Compare(math.Atan2(float64(a.Y), float64(a.X)), math.Atan2(float64(b.Y), float64(b.X)))
	})
	at := spot{X: 100, Y: 100}
	var list []spot
	for _, w := range ways {
		at = spot{X: at.X + w.X, Y: at.Y + w.Y}
		list = append(list, at)
	}
	return list
}

// fromTheLeast is the same round, begun where a Hull begins.
func fromTheLeast(list []spot) []spot {
	least := 0
	for i, s := range list {
		if s.X < list[least].X || s.X == list[least].X && s.Y < list[least].Y {
			least = i
		}
	}
	return slices.Concat(list[least:], list[:least])
}

func TestHullOfAllSmallSets(t *testing.T) {
	next := someRule(51)
	for _, window := range []rect{{Wide: 4, High: 3}, {X: 253, Wide: 3, High: 4}, {Y: 253, Wide: 4, High: 3}, {X: 253, Y: 252, Wide: 3, High: 4}} {
		all := spotsOf(window)
		for set := 1; set < 1<<len(all); set++ {
			var list []spot
			for i, s := range all {
				if set>>i&1 == 1 {
					list = append(list, s)
				}
			}
			checkHull(t, scrambled(list, next))
		}
	}
}

func TestHullOfAllSmallLists(t *testing.T) {
	hulls := 0
	for _, c := range []struct {
		window rect
		count  int
	}{{rect{Wide: 4, High: 4}, 1}, {rect{X: 252, Y: 252, Wide: 4, High: 4}, 2}, {rect{X: 252, Wide: 4, High: 4}, 3}, {rect{Y: 253, Wide: 3, High: 3}, 4}} {
		for list := range allLists(spotsOf(c.window), c.count) {
			checkHull(t, list)
			if impl.HullOk(list) {
				hulls++
			}
		}
	}
	if hulls < 400 {
		t.Fatalf("only %d of the lists were hulls", hulls)
	}
}

func TestHullOfSomeSpots(t *testing.T) {
	for _, list := range someSpots(1400, 52) {
		checkHull(t, list)
	}
}

// Neither their order nor how often one is there changes the Hull, nor does
// what is in it already.
func TestHullOfSpotsToldOtherwise(t *testing.T) {
	next := someRule(53)
	for _, list := range someSpots(280, 54) {
		hull := impl.Hull(list)
		for _, other := range [][]spot{scrambled(list, next), slices.Concat(list, list), slices.Concat(hull, list), slices.Concat(list, hull), hull} {
			if len(other) > impl.MaxSpots {
				continue
			}
			if got := impl.Hull(other); !slices.Equal(got, hull) {
				t.Fatalf("Hull(%v) = %v, but %v of %v", other, got, hull, list)
			}
		}
	}
}

func TestHullNamedEdges(t *testing.T) {
	far := spot{X: 255, Y: 255}
	cases := []struct {
		name       string
		list, want []spot
	}{
		{"none", nil, nil},
		{"one", []spot{{X: 7, Y: 9}}, []spot{{X: 7, Y: 9}}},
		{"one, at the grid's first", []spot{{}}, []spot{{}}},
		{"one, at the grid's last", []spot{far}, []spot{far}},
		{"two", []spot{{X: 9, Y: 1}, {X: 2, Y: 5}}, []spot{{X: 2, Y: 5}, {X: 9, Y: 1}}},
		{"two on an upright line", []spot{{X: 4, Y: 8}, {X: 4, Y: 3}}, []spot{{X: 4, Y: 3}, {X: 4, Y: 8}}},
		{"two alike", []spot{{X: 4, Y: 8}, {X: 4, Y: 8}}, []spot{{X: 4, Y: 8}}},
		{"40 alike", slices.Repeat([]spot{far}, 40), []spot{far}},
		{"on a level line", []spot{{X: 5, Y: 3}, {X: 9, Y: 3}, {X: 2, Y: 3}, {X: 6, Y: 3}}, []spot{{X: 2, Y: 3}, {X: 9, Y: 3}}},
		{"on an upright line", []spot{{X: 5, Y: 3}, {X: 5, Y: 9}, {X: 5}, {X: 5, Y: 3}}, []spot{{X: 5}, {X: 5, Y: 9}}},
		{"on a slanting line", []spot{{X: 100, Y: 100}, far, {X: 1, Y: 1}, {}}, []spot{{}, far}},
		{"on a line that falls", []spot{{X: 3, Y: 4}, {X: 6, Y: 2}, {Y: 6}}, []spot{{Y: 6}, {X: 6, Y: 2}}},
		{"the grid's corners", []spot{far, {Y: 255}, {X: 255}, {}}, []spot{{}, {X: 255}, far, {Y: 255}}},
		{"the grid's corners, and on its edges", []spot{{X: 9}, far, {Y: 9}, {Y: 255}, {X: 255, Y: 9}, {X: 255}, {X: 9, Y: 255}, {}, {X: 9, Y: 9}}, []spot{{}, {X: 255}, far, {Y: 255}}},
		{"the least triangle", []spot{{X: 1}, {Y: 1}, {}}, []spot{{}, {X: 1}, {Y: 1}}},
		{"a sliver", []spot{{X: 254, Y: 253}, far, {}}, []spot{{}, {X: 254, Y: 253}, far}},
		{"two have the least X", []spot{{X: 9, Y: 5}, {X: 1, Y: 9}, {X: 1, Y: 1}}, []spot{{X: 1, Y: 1}, {X: 9, Y: 5}, {X: 1, Y: 9}}},
		{"three have the least X", []spot{{X: 1, Y: 5}, {X: 9, Y: 5}, {X: 1, Y: 9}, {X: 1, Y: 1}}, []spot{{X: 1, Y: 1}, {X: 9, Y: 5}, {X: 1, Y: 9}}},
		{"the least X has a greater Y", []spot{{X: 9}, {X: 1, Y: 200}, {X: 9, Y: 255}}, []spot{{X: 1, Y: 200}, {X: 9}, {X: 9, Y: 255}}},
	}
	for _, c := range cases {
		if got := impl.Hull(c.list); !slices.Equal(got, c.want) {
			t.Errorf("%s: Hull(%v) = %v, not %v", c.name, c.list, got, c.want)
		}
		if !impl.HullOk(c.want) {
			t.Errorf("%s: HullOk(%v) is false", c.name, c.want)
		}
	}
}

func TestHullOfFortyAndFortyOne(t *testing.T) {
	all := wheel()
	if len(all) != 48 {
		t.Fatalf("the wheel has %d corners", len(all))
	}
	hull := fromTheLeast(all[:40])
	if got := impl.Hull(all[:40]); !slices.Equal(got, hull) || !impl.HullOk(hull) {
		t.Fatalf("Hull of 40 corners = %v, not %v", got, hull)
	}
	checkHull(t, scrambled(all[:40], someRule(55)))
	inner := slices.Concat(all[:4], slices.Repeat([]spot{all[2]}, 36))
	checkHull(t, inner)
	for _, n := range []int{41, 42, 48} {
		checkNoSpots(t, fromTheLeast(all[:n]))
	}
	checkNoSpots(t, append(slices.Clone(inner), all[1]))
	checkNoSpots(t, slices.Repeat([]spot{{}}, 41))
	checkNoSpots(t, make([]spot, 100000))
}

func TestHullOkIsItsOneForm(t *testing.T) {
	for _, list := range append(someSpots(280, 56), wheel()[:40], nil) {
		hull := impl.Hull(list)
		if !impl.HullOk(hull) {
			t.Fatalf("HullOk(%v) is false", hull)
		}
		for _, other := range toldOtherwise(hull) {
			if got := impl.HullOk(other); got != slices.Equal(other, hull) {
				t.Fatalf("HullOk(%v) = %v, but the hull is %v", other, got, hull)
			}
		}
		for i, s := range hull {
			if twice := slices.Insert(slices.Clone(hull), i, s); impl.HullOk(twice) {
				t.Fatalf("HullOk(%v), with one Spot twice", twice)
			}
			next := hull[(i+1)%len(hull)]
			half := spot{X: (s.X + next.X) / 2, Y: (s.Y + next.Y) / 2}
			if more := slices.Insert(slices.Clone(hull), i+1, half); isBetween(s, next, half) && impl.HullOk(more) {
				t.Fatalf("HullOk(%v), with one on an edge", more)
			}
		}
	}
}

func TestInHullOfEachSpotNearby(t *testing.T) {
	in, out := 0, 0
	for _, list := range someSpots(350, 57) {
		hull := hullOf(list)
		box := boxOf(list)
		if box.Wide > 31 {
			continue
		}
		for _, s := range spotsOf(rect{X: max(box.X-2, 0), Y: max(box.Y-2, 0), Wide: box.Wide + 4, High: box.High + 4}) {
			want := s.X < 256 && s.Y < 256 && isAmong(hull, s)
			if got := impl.InHull(hull, s); got != want {
				t.Fatalf("InHull(%v, %v) = %v", hull, s, got)
			}
			if want {
				in++
			} else {
				out++
			}
		}
	}
	if in < 5000 || out < 5000 {
		t.Fatalf("%d were in, %d not", in, out)
	}
}

func TestInHullOfGreatOnes(t *testing.T) {
	next := someRule(58)
	for _, list := range [][]spot{{{}, {X: 255}, {X: 255, Y: 255}, {Y: 255}}, {{}, {X: 255, Y: 254}, {X: 254, Y: 255}}, {{}, {X: 254, Y: 253}, {X: 255, Y: 255}}, {{}, {X: 255, Y: 255}}, {{X: 3, Y: 250}, {X: 200, Y: 5}}, fromTheLeast(wheel()[:40])} {
		if !impl.HullOk(list) {
			t.Fatalf("HullOk(%v) is false", list)
		}
		asked := []spot{{}, {X: 255}, {Y: 255}, {X: 255, Y: 255}, {X: 128, Y: 128}, {X: 128, Y: 127}}
		for range 2000 {
			n := next(256)
			asked = append(asked, spot{X: next(256), Y: next(256)}, spot{X: n, Y: n})
		}
		for _, s := range asked {
			if got := impl.InHull(list, s); got != isAmong(list, s) {
				t.Fatalf("InHull(%v, %v) = %v", list, s, got)
			}
		}
	}
}

func TestInHullNamedEdges(t *testing.T) {
	square := []spot{{X: 2, Y: 2}, {X: 6, Y: 2}, {X: 6, Y: 6}, {X: 2, Y: 6}}
	slope := []spot{{X: 2, Y: 3}, {X: 6, Y: 5}}
	cases := []struct {
		name string
		hull []spot
		s    spot
		want bool
	}{
		{"a corner", square, spot{X: 6, Y: 6}, true}, {"on an edge", square, spot{X: 4, Y: 2}, true},
		{"within", square, spot{X: 3, Y: 5}, true}, {"beside it", square, spot{X: 7, Y: 4}, false},
		{"on the line of an edge", square, spot{X: 7, Y: 2}, false}, {"below", square, spot{X: 4, Y: 1}, false},
		{"an end of two", slope, spot{X: 6, Y: 5}, true}, {"between two", slope, spot{X: 4, Y: 4}, true},
		{"beyond two", slope, spot{X: 8, Y: 6}, false}, {"ahead of two", slope, spot{Y: 2}, false},
		{"beside two", slope, spot{X: 4, Y: 5}, false}, {"below two", slope, spot{X: 5, Y: 4}, false},
		{"between two, no more than a half of a Spot off", slope, spot{X: 3, Y: 3}, false},
		{"one itself", []spot{{X: 5, Y: 5}}, spot{X: 5, Y: 5}, true}, {"beside one", []spot{{X: 5, Y: 5}}, spot{X: 5, Y: 6}, false},
		{"none", nil, spot{}, false}, {"an empty one", []spot{}, spot{}, false},
		{"no hull: to the right around", []spot{{X: 2, Y: 2}, {X: 2, Y: 6}, {X: 6, Y: 6}, {X: 6, Y: 2}}, spot{X: 4, Y: 4}, false},
		{"no hull: from another corner on", []spot{{X: 6, Y: 2}, {X: 6, Y: 6}, {X: 2, Y: 6}, {X: 2, Y: 2}}, spot{X: 4, Y: 4}, false},
		{"no hull: one is on an edge", []spot{{X: 2, Y: 2}, {X: 4, Y: 2}, {X: 6, Y: 2}, {X: 6, Y: 6}}, spot{X: 4, Y: 2}, false},
		{"no hull: one is within", append(slices.Clone(square), spot{X: 3, Y: 3}), spot{X: 4, Y: 4}, false},
		{"no hull: two in the wrong order", []spot{{X: 6, Y: 5}, {X: 2, Y: 3}}, spot{X: 4, Y: 4}, false},
		{"no hull: one twice", []spot{{X: 5, Y: 5}, {X: 5, Y: 5}}, spot{X: 5, Y: 5}, false},
		{"no hull: three on a line", []spot{{}, {X: 4, Y: 4}, {X: 9, Y: 9}}, spot{X: 4, Y: 4}, false},
	}
	for _, c := range cases {
		if got := impl.InHull(c.hull, c.s); got != c.want {
			t.Errorf("%s: InHull(%v, %v) = %v", c.name, c.hull, c.s, got)
		}
	}
	for _, s := range wrongSpots() {
		for _, hull := range [][]spot{square, slope, {{X: 3, Y: 3}}, {{}, {X: 255}, {X: 255, Y: 255}, {Y: 255}}, {{}, {X: 255, Y: 255}}, {s}, nil} {
			if impl.InHull(hull, s) {
				t.Errorf("InHull(%v, %v)", hull, s)
			}
		}
	}
}

func TestExtremeOfSomeSpots(t *testing.T) {
	next := someRule(59)
	for _, list := range someSpots(700, 60) {
		for range 10 {
			a, b := next(2001)-1000, next(2001)-1000
			if got, want := impl.Extreme(list, a, b), greatestOf(list, a, b); got != want {
				t.Fatalf("Extreme(%v, %d, %d) = %d, not %d", list, a, b, got, want)
			}
			if got := impl.Extreme(impl.Hull(list), a, b); got != greatestOf(list, a, b) {
				t.Fatalf("Extreme(%v, %d, %d) = %d at the corners of its Hull", list, a, b, got)
			}
		}
	}
}

func TestExtremeNamedEdges(t *testing.T) {
	corners := []spot{{}, {X: 255}, {X: 255, Y: 255}, {Y: 255}}
	last := []spot{{X: 255, Y: 255}}
	cases := []struct {
		list       []spot
		a, b, want int64
	}{
		{corners, 1000, 1000, 510000}, {corners, -1000, -1000, 0}, {corners, 1000, -1000, 255000}, {corners, -1000, 1000, 255000},
		{corners, 0, 0, 0}, {corners, 0, -1, 0}, {last, -1000, -1000, -510000}, {last, 1000, 1000, 510000}, {last, 1, -1, 0},
		{[]spot{{X: 1}}, -1, 0, -1}, {[]spot{{X: 2, Y: 3}, {X: 3, Y: 2}}, 2, 3, 13}, {[]spot{{X: 2, Y: 3}, {X: 3, Y: 2}}, -2, -3, -12},
		{[]spot{{X: 9, Y: 1}, {X: 9, Y: 1}}, 3, 7, 34}, {nil, 1, 1, -1}, {[]spot{}, 0, 0, -1},
	}
	for _, c := range cases {
		if got := impl.Extreme(c.list, c.a, c.b); got != c.want {
			t.Errorf("Extreme(%v, %d, %d) = %d, not %d", c.list, c.a, c.b, got, c.want)
		}
	}
	for _, wrong := range []int64{-1001, 1001, -1002, 1 << 20, -(1 << 40), 1<<32 + 1, math.MinInt64, math.MinInt64 + 1, math.MaxInt64} {
		for _, right := range []int64{-1000, 0, 7, 1000} {
			for _, list := range [][]spot{corners, last, {{}}, {{X: 3, Y: 4}, {X: 4, Y: 3}}} {
				if impl.Extreme(list, wrong, right) != -1 || impl.Extreme(list, right, wrong) != -1 || impl.Extreme(list, wrong, wrong) != -1 {
					t.Errorf("Extreme(%v) by %d and %d", list, wrong, right)
				}
			}
		}
	}
}

func TestWrongSpotsHaveNoHull(t *testing.T) {
	next := someRule(61)
	for _, s := range wrongSpots() {
		checkNoSpots(t, []spot{s})
		checkNoSpots(t, []spot{s, s})
		for _, n := range []int{1, 2, 3, 7, 39} {
			for _, i := range []int64{0, next(int64(n)), int64(n)} {
				checkNoSpots(t, slices.Insert(slices.Clone(wheel()[:n]), int(i), s))
			}
		}
	}
	least, greatest := int64(math.MinInt64), int64(math.MaxInt64)
	checkNoSpots(t, []spot{{X: least, Y: least}, {X: greatest, Y: least}, {X: greatest, Y: greatest}, {X: least, Y: greatest}})
	checkNoSpots(t, []spot{{}, {X: 256}, {X: 256, Y: 256}, {Y: 256}})
	checkNoSpots(t, []spot{{X: -1, Y: -1}, {X: 4, Y: -1}, {X: 4, Y: 4}})
}

func TestHullArgumentsStayAndAnswersAreNew(t *testing.T) {
	lists := append(someSpots(210, 62), nil, wheel()[:40], wheel()[:41], wrongSpots(), []spot{{X: 9, Y: 9}}, fromTheLeast(wheel()[:30]), []spot{{}, {X: 4}})
	for _, list := range lists {
		all := slices.Concat(list, slices.Repeat([]spot{{X: 111, Y: 222}}, 2*impl.MaxSpots+5))
		was := slices.Clone(all)
		given := all[:len(list)]
		first, second := impl.Hull(given), impl.Hull(given)
		want := slices.Clone(first)
		first = first[:cap(first)]
		for i := range first {
			first[i] = spot{X: math.MinInt64, Y: math.MaxInt64}
		}
		impl.HullOk(given)
		impl.InHull(given, spot{X: 3, Y: 3})
		impl.Extreme(given, 3, -4)
		if !slices.Equal(all, was) {
			t.Fatalf("%v was changed, or the room behind it", list)
		}
		if !slices.Equal(second, want) || !slices.Equal(impl.Hull(given), want) {
			t.Fatalf("Hull(%v) shares its memory", list)
		}
	}
}

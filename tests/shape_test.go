package tests

import (
	"math"
	"slices"
	"testing"

	"loop.example/g00301/impl"
)

// pieceOf is an edge, told by where it begins and how far it goes.
type pieceOf struct{ x, y, across, up int64 }

func piecesOf(list []spot) []pieceOf {
	var all []pieceOf
	for i, s := range list {
		to := list[(i+1)%len(list)]
		all = append(all, pieceOf{x: s.X, y: s.Y, across: to.X - s.X, up: to.Y - s.Y})
	}
	return all
}

func overlap(a, b, c, d int64) bool { return max(min(a, b), min(c, d)) <= min(max(a, b), max(c, d)) }

// touch asks whether two edges have a place in common, by how far along each
// of them it would lie: t and u of a whole that both must be within.
func (p pieceOf) touch(q pieceOf) bool {
	whole := p.across*q.up - p.up*q.across
	x, y := q.x-p.x, q.y-p.y
	if whole == 0 {
		return x*p.up == y*p.across && overlap(p.x, p.x+p.across, q.x, q.x+q.across) && overlap(p.y, p.y+p.up, q.y, q.y+q.up)
	}
	t, u := x*q.up-y*q.across, x*p.up-y*p.across
	if whole < 0 {
		whole, t, u = -whole, -t, -u
	}
	return 0 <= t && t <= whole && 0 <= u && u <= whole
}

// isShape asks by the document's words, one after the other.
func isShape(list []spot) bool {
	n := len(list)
	if n < 3 || n > 12 {
		return false
	}
	for i, s := range list {
		if s.X < 0 || s.X > 255 || s.Y < 0 || s.Y > 255 || slices.Contains(list[:i], s) {
			return false
		}
	}
	all := piecesOf(list)
	for i, p := range all {
		if q := all[(i+1)%n]; p.across*q.up == p.up*q.across {
			return false
		}
		for j, q := range all {
			next := i == j || (i+1)%n == j || (j+1)%n == i
			if !next && p.touch(q) {
				return false
			}
		}
	}
	return true
}

// edgeSpots goes along each edge column by column, or row by row where it is
// steep, and keeps what falls on a Spot.
func edgeSpots(list []spot) map[spot]bool {
	on := map[spot]bool{}
	for _, p := range piecesOf(list) {
		long := max(p.across, -p.across, p.up, -p.up)
		for n := range long {
			if p.across*n%long == 0 && p.up*n%long == 0 {
				on[spot{X: p.x + p.across*n/long, Y: p.y + p.up*n/long}] = true
			}
		}
	}
	return on
}

// goesAround adds up by which angle one turns who stands at s and looks along
// all of the edges: a whole turn from within, none from without.
func goesAround(list []spot, s spot) bool {
	sum := 0.0
	for _, p := range piecesOf(list) {
		x, y := float64(p.x-s.X), float64(p.y-s.Y)
		u, v := x+float64(p.across), y+float64(p.up)
		sum += math.Atan2(x*v-y*u, x*u+y*v)
	}
	return math.Abs(sum) > math.Pi
}

// counted are how many Spots are on the edges and how many within, one by one.
func counted(list []spot) (edge int64, within int64) {
	on := edgeSpots(list)
	for _, s := range spotsOf(boxOf(list)) {
		if on[s] {
			edge++
		} else if goesAround(list, s) {
			within++
		}
	}
	return edge, within
}

// strips adds up twice what lies between each edge and the grid's lower end.
func strips(list []spot) int64 {
	sum := int64(0)
	for _, p := range piecesOf(list) {
		sum += p.across * (2*p.y + p.up)
	}
	return max(sum, -sum)
}

// checkShape holds promise 4 of one shape, and each number of it against what
// is counted.
func checkShape(t *testing.T, list []spot) {
	t.Helper()
	if !impl.ShapeOk(list) {
		t.Fatalf("ShapeOk(%v) is false", list)
	}
	double, edge, within := impl.Double(list), impl.Edge(list), impl.Within(list)
	if double != 2*within+edge-2 {
		t.Fatalf("%v: Double %d, Within %d, Edge %d", list, double, within, edge)
	}
	wantEdge, wantWithin := counted(list)
	if edge != wantEdge || within != wantWithin || double != strips(list) {
		t.Fatalf("%v: Double %d, Edge %d, Within %d, not %d, %d, %d", list, double, edge, within, strips(list), wantEdge, wantWithin)
	}
}

func checkNoShape(t *testing.T, list []spot) {
	t.Helper()
	ok, double, edge, within := impl.ShapeOk(list), impl.Double(list), impl.Edge(list), impl.Within(list)
	if ok || double != -1 || edge != -1 || within != -1 {
		t.Fatalf("%v: ShapeOk %v, Double %d, Edge %d, Within %d", list, ok, double, edge, within)
	}
}

// toldOtherwise are all the lists of one shape: from each corner on, to the
// left around and to the right around.
func toldOtherwise(list []spot) [][]spot {
	back := slices.Clone(list)
	slices.Reverse(back)
	var all [][]spot
	for i := range list {
		all = append(all, slices.Concat(list[i:], list[:i]), slices.Concat(back[i:], back[:i]))
	}
	return all
}

func moved(list []spot, across, up int64) []spot {
	var to []spot
	for _, s := range list {
		to = append(to, spot{X: s.X + across, Y: s.Y + up})
	}
	return to
}

type knownShape struct {
	name                 string
	list                 []spot
	double, edge, within int64
}

func knownShapes() []knownShape {
	return []knownShape{
		{"the least", []spot{{}, {X: 1}, {Y: 1}}, 1, 3, 0},
		{"the least, at the far corner", []spot{{X: 255, Y: 255}, {X: 254, Y: 255}, {X: 255, Y: 254}}, 1, 3, 0},
		{"a slanting sliver", []spot{{}, {X: 255, Y: 254}, {X: 254, Y: 253}}, 1, 3, 0},
		{"level, upright and slanting", []spot{{}, {X: 6}, {X: 6, Y: 3}}, 18, 12, 4},
		{"the whole grid", []spot{{}, {X: 255}, {X: 255, Y: 255}, {Y: 255}}, 130050, 1020, 64516},
		{"half the grid", []spot{{}, {X: 255}, {X: 255, Y: 255}}, 65025, 765, 32131},
		{"on its corner", []spot{{X: 3}, {X: 6, Y: 3}, {X: 3, Y: 6}, {Y: 3}}, 36, 12, 13},
		{"bent in", []spot{{}, {X: 8}, {X: 8, Y: 8}, {X: 4, Y: 2}, {Y: 8}}, 80, 28, 27},
		{"an L", []spot{{}, {X: 4}, {X: 4, Y: 2}, {X: 2, Y: 2}, {X: 2, Y: 5}, {Y: 5}}, 28, 18, 6},
		{"a plus of 12", []spot{{X: 1}, {X: 2}, {X: 2, Y: 1}, {X: 3, Y: 1}, {X: 3, Y: 2}, {X: 2, Y: 2}, {X: 2, Y: 3}, {X: 1, Y: 3}, {X: 1, Y: 2}, {Y: 2}, {Y: 1}, {X: 1, Y: 1}}, 10, 12, 0},
		{"a comb of 12", []spot{{}, {X: 200}, {X: 200, Y: 9}, {X: 160, Y: 9}, {X: 160, Y: 1}, {X: 120, Y: 1}, {X: 120, Y: 9}, {X: 80, Y: 9}, {X: 80, Y: 1}, {X: 40, Y: 1}, {X: 40, Y: 9}, {Y: 9}}, 2320, 450, 936},
		{"a star of 10", []spot{{X: 50, Y: 100}, {X: 40, Y: 62}, {X: 2, Y: 62}, {X: 33, Y: 40}, {X: 20, Y: 2}, {X: 50, Y: 26}, {X: 80, Y: 2}, {X: 67, Y: 40}, {X: 98, Y: 62}, {X: 60, Y: 62}}, 5752, 96, 2829},
	}
}

// untangled turns round what lies between two edges that have a place in
// common, as long as there are such: of most lists that makes a shape.
func untangled(list []spot) []spot {
	list = slices.Clone(list)
	for range 200 {
		all := piecesOf(list)
		i, j := tangle(all)
		if i < 0 {
			break
		}
		slices.Reverse(list[i+1 : j+1])
	}
	return list
}

func tangle(all []pieceOf) (int, int) {
	for i, p := range all {
		for j := i + 2; j < len(all); j++ {
			if (i > 0 || j < len(all)-1) && p.touch(all[j]) {
				return i, j
			}
		}
	}
	return -1, -1
}

// someShapes are shapes of 3 to 12 corners by a fixed rule, within a square of
// so many Spots on each side.
func someShapes(n int, side int64, seed uint32) [][]spot {
	next := someRule(seed)
	var all [][]spot
	for len(all) < n {
		x, y := next(257-side), next(257-side)
		var list []spot
		for range 3 + len(all)%10 {
			list = append(list, spot{X: x + next(side), Y: y + next(side)})
		}
		if list = untangled(list); isShape(list) {
			all = append(all, list)
		}
	}
	return all
}

// allLists are all lists of so many Spots of these.
func allLists(of []spot, count int) func(yield func([]spot) bool) {
	return func(yield func([]spot) bool) {
		numbers := make([]int, count)
		list := make([]spot, count)
		for {
			for i, n := range numbers {
				list[i] = of[n]
			}
			if !yield(slices.Clone(list)) {
				return
			}
			at := 0
			for at < count && numbers[at] == len(of)-1 {
				numbers[at] = 0
				at++
			}
			if at == count {
				return
			}
			numbers[at]++
		}
	}
}

func TestShapeOkOfAllSmallLists(t *testing.T) {
	shapes := 0
	for _, c := range []struct {
		window rect
		count  int
	}{
		{rect{Wide: 4, High: 4}, 3}, {rect{X: 252, Y: 252, Wide: 4, High: 4}, 4},
		{rect{X: 253, Wide: 3, High: 3}, 5}, {rect{Y: 253, Wide: 3, High: 2}, 6},
	} {
		for list := range allLists(spotsOf(c.window), c.count) {
			if isShape(list) {
				shapes++
				checkShape(t, list)
			} else {
				checkNoShape(t, list)
			}
		}
	}
	if shapes < 10000 {
		t.Fatalf("only %d shapes were asked", shapes)
	}
}

func TestShapeOkOfSomeLists(t *testing.T) {
	next := someRule(44)
	for i := range 40000 {
		side := []int64{3, 5, 9, 40, 256}[i%5]
		var list []spot
		for range 2 + i/5%12 {
			list = append(list, spot{X: 256 - side + next(side), Y: next(side)})
		}
		for _, asked := range [][]spot{list, untangled(list)} {
			if got, want := impl.ShapeOk(asked), isShape(asked); got != want {
				t.Fatalf("ShapeOk(%v) = %v", asked, got)
			}
		}
	}
}

func TestPickOfKnownShapes(t *testing.T) {
	for _, k := range knownShapes() {
		for _, list := range toldOtherwise(k.list) {
			if got := impl.Double(list); got != k.double {
				t.Errorf("%s: Double(%v) = %d, not %d", k.name, list, got, k.double)
			}
			if got := impl.Edge(list); got != k.edge {
				t.Errorf("%s: Edge(%v) = %d, not %d", k.name, list, got, k.edge)
			}
			if got := impl.Within(list); got != k.within {
				t.Errorf("%s: Within(%v) = %d, not %d", k.name, list, got, k.within)
			}
		}
		checkShape(t, k.list)
	}
}

func TestPickOfSomeShapes(t *testing.T) {
	for _, list := range slices.Concat(someShapes(400, 7, 1), someShapes(400, 16, 2), someShapes(100, 60, 3), someShapes(30, 256, 4)) {
		checkShape(t, list)
	}
}

func TestPickOfEachNumberOfCorners(t *testing.T) {
	corners, inward, leftward := map[int]int{}, map[bool]int{}, map[bool]int{}
	for _, list := range someShapes(300, 30, 5) {
		checkShape(t, list)
		corners[len(list)]++
		turns := map[int64]int{}
		for i, s := range list {
			turns[impl.Side(s, list[(i+1)%len(list)], list[(i+2)%len(list)])]++
		}
		inward[turns[1] > 0 && turns[-1] > 0]++
		leftward[turns[1] > turns[-1]]++
	}
	for n := 3; n <= 12; n++ {
		if corners[n] < 20 {
			t.Errorf("only %d shapes of %d corners", corners[n], n)
		}
	}
	if inward[true] < 50 || inward[false] < 50 || leftward[true] < 50 || leftward[false] < 50 {
		t.Errorf("bent in %v, to the left around %v", inward, leftward)
	}
}

func TestShapesToldOtherwiseAreAlike(t *testing.T) {
	for _, list := range someShapes(60, 24, 6) {
		double, edge, within := impl.Double(list), impl.Edge(list), impl.Within(list)
		for _, other := range toldOtherwise(list) {
			if impl.Double(other) != double || impl.Edge(other) != edge || impl.Within(other) != within {
				t.Fatalf("%v and %v: %d %d, %d %d, %d %d", list, other, double, impl.Double(other), edge, impl.Edge(other), within, impl.Within(other))
			}
		}
	}
}

func TestShapesAtTheGridsEdges(t *testing.T) {
	for _, list := range someShapes(40, 9, 7) {
		box := boxOf(list)
		for _, x := range []int64{0, 256 - box.Wide} {
			for _, y := range []int64{0, 256 - box.High} {
				checkShape(t, moved(list, x-box.X, y-box.Y))
			}
		}
		checkNoShape(t, moved(list, -1-box.X, 0))
		checkNoShape(t, moved(list, 0, -1-box.Y))
		checkNoShape(t, moved(list, 257-box.Wide-box.X, 0))
		checkNoShape(t, moved(list, 0, 257-box.High-box.Y))
	}
}

// bow has its corners on a line and on a curve above it, and is convex: with so
// many of them it would be a shape, but for their number.
func bow(corners int) []spot {
	var list []spot
	for i := range int64(corners) {
		list = append(list, spot{X: 10 * i, Y: i * i})
	}
	return list
}

func TestFewestAndMostCorners(t *testing.T) {
	for n := 3; n <= 12; n++ {
		checkShape(t, bow(n))
	}
	for _, n := range []int{0, 1, 2, 13, 14, 16} {
		checkNoShape(t, bow(n))
	}
	checkNoShape(t, nil)
	checkNoShape(t, make([]spot, 12))
	checkNoShape(t, make([]spot, 100000))
}

func TestWhatIsNoShape(t *testing.T) {
	cases := []struct {
		name string
		list []spot
	}{
		{"two alike, next to each other", []spot{{}, {X: 9}, {X: 9}, {Y: 9}}},
		{"two alike, the last and the first", []spot{{}, {X: 9}, {Y: 9}, {}}},
		{"two alike, with one between", []spot{{}, {X: 9}, {X: 9, Y: 9}, {X: 9}, {Y: 9}}},
		{"two alike, with two between on each side", []spot{{X: 5, Y: 5}, {X: 1, Y: 1}, {X: 9}, {X: 5, Y: 5}, {X: 9, Y: 9}, {X: 1, Y: 8}}},
		{"three of which two are alike", []spot{{X: 3, Y: 4}, {X: 9}, {X: 3, Y: 4}}},
		{"all alike", []spot{{X: 3, Y: 4}, {X: 3, Y: 4}, {X: 3, Y: 4}}},
		{"edges that cross at a Spot", []spot{{}, {X: 4, Y: 4}, {X: 4}, {Y: 4}}},
		{"edges that cross between Spots", []spot{{}, {X: 5, Y: 5}, {X: 5}, {Y: 5}}},
		{"the closing edge crosses", []spot{{}, {X: 4}, {X: 4, Y: 8}, {X: 8, Y: 8}, {X: 8, Y: 4}}},
		{"a level one and an upright one cross", []spot{{Y: 4}, {X: 8, Y: 4}, {X: 8}, {X: 4}, {X: 4, Y: 8}, {Y: 8}}},
		{"a corner touches a level edge", []spot{{}, {X: 8}, {X: 8, Y: 5}, {X: 4}, {Y: 5}}},
		{"a corner touches an upright edge", []spot{{}, {Y: 8}, {X: 5, Y: 8}, {Y: 4}, {X: 5}}},
		{"a corner touches a slanting edge", []spot{{}, {X: 8, Y: 4}, {X: 5, Y: 9}, {X: 4, Y: 2}, {X: 1, Y: 7}}},
		{"a corner touches the closing edge", []spot{{}, {X: 8}, {X: 4, Y: 4}, {X: 9, Y: 6}, {X: 8, Y: 8}}},
		{"edges that lie on one another", []spot{{}, {X: 8}, {X: 8, Y: 4}, {X: 6}, {X: 2}, {Y: 4}}},
		{"edges that lie on one another in part", []spot{{}, {X: 6}, {X: 9, Y: 4}, {X: 9}, {X: 4}, {Y: 6}}},
		{"an edge that goes back on itself", []spot{{}, {X: 8}, {X: 4}, {X: 4, Y: 6}}},
		{"an edge that goes back to where it began", []spot{{}, {X: 8}, {}, {X: 4, Y: 6}}},
		{"three on one level line", []spot{{}, {X: 4}, {X: 8}, {X: 4, Y: 6}}},
		{"three on one upright line", []spot{{}, {X: 8, Y: 3}, {Y: 9}, {Y: 5}}},
		{"three on one slanting line", []spot{{}, {X: 3, Y: 2}, {X: 6, Y: 4}, {Y: 9}}},
		{"the last and the first two on one line", []spot{{X: 4}, {X: 8}, {X: 4, Y: 6}, {}}},
		{"the last two and the first on one line", []spot{{X: 8}, {X: 4, Y: 6}, {}, {X: 4}}},
		{"three in all, on one line", []spot{{}, {X: 100, Y: 100}, {X: 255, Y: 255}}},
		{"two triangles with a corner in common", []spot{{}, {X: 4}, {X: 2, Y: 3}, {X: 4, Y: 6}, {Y: 6}, {X: 2, Y: 3}}},
	}
	for _, c := range cases {
		if isShape(c.list) {
			t.Fatalf("%s: it is one", c.name)
		}
		for _, list := range toldOtherwise(c.list) {
			for _, asked := range [][]spot{list, moved(list, 240, 240)} {
				if impl.ShapeOk(asked) {
					t.Errorf("%s: ShapeOk(%v)", c.name, asked)
				} else {
					checkNoShape(t, asked)
				}
			}
		}
	}
}

// What lies on the line of an edge, but not on it, does not touch it.
func TestShapesThatNearlyTouch(t *testing.T) {
	for _, list := range [][]spot{
		{{}, {X: 8}, {X: 8, Y: 5}, {X: 4, Y: 1}, {Y: 5}},
		{{}, {X: 4}, {X: 5, Y: 2}, {X: 6}, {X: 9}, {X: 5, Y: 8}},
		{{}, {X: 4}, {X: 4, Y: 3}, {X: 5, Y: 3}, {X: 5}, {X: 9}, {X: 9, Y: 5}, {Y: 5}},
		{{}, {X: 3, Y: 3}, {X: 4, Y: 0}, {X: 8, Y: 8}, {X: 5, Y: 5}, {X: 0, Y: 9}},
		{{X: 255, Y: 255}, {X: 251, Y: 255}, {X: 250, Y: 253}, {X: 249, Y: 255}, {X: 246, Y: 255}, {X: 250, Y: 247}},
	} {
		if !isShape(list) {
			t.Fatalf("%v is none", list)
		}
		for _, other := range toldOtherwise(list) {
			checkShape(t, other)
		}
	}
}

func TestWrongSpotsAreNoShape(t *testing.T) {
	for _, s := range wrongSpots() {
		for _, n := range []int{3, 4, 12} {
			for i := range n {
				list := bow(n)
				list[i] = s
				checkNoShape(t, list)
			}
		}
		checkNoShape(t, []spot{s})
		checkNoShape(t, []spot{s, s, s})
	}
	least, greatest := int64(math.MinInt64), int64(math.MaxInt64)
	checkNoShape(t, []spot{{X: least, Y: least}, {X: greatest, Y: least}, {X: greatest, Y: greatest}, {X: least, Y: greatest}})
	checkNoShape(t, []spot{{X: 256}, {X: 256, Y: 256}, {Y: 256}})
	checkNoShape(t, []spot{{X: -1, Y: -1}, {X: 4, Y: -1}, {X: 4, Y: 4}})
}

// leftOf asks who looks from a to b, and turns to the left, whether c is ahead.
func leftOf(a, b, c spot) int64 {
	ahead := spot{X: a.Y - b.Y, Y: b.X - a.X}
	far := ahead.X*(c.X-a.X) + ahead.Y*(c.Y-a.Y)
	if far == 0 {
		return 0
	}
	return far / max(far, -far)
}

func checkSide(t *testing.T, a, b, c spot) {
	t.Helper()
	got := impl.Side(a, b, c)
	if got != leftOf(a, b, c) {
		t.Fatalf("Side(%v, %v, %v) = %d", a, b, c, got)
	}
	if impl.Side(b, a, c) != -got || impl.Side(a, c, b) != -got || impl.Side(c, b, a) != -got {
		t.Fatalf("Side of %v, %v, %v: two in each other's place do not turn its sign", a, b, c)
	}
	if impl.Side(b, c, a) != got || impl.Side(c, a, b) != got {
		t.Fatalf("Side of %v, %v, %v is another one from the next on", a, b, c)
	}
}

func TestSideOfAllSmallTriples(t *testing.T) {
	for _, window := range windows() {
		for list := range allLists(spotsOf(window), 3) {
			checkSide(t, list[0], list[1], list[2])
		}
	}
	next := someRule(8)
	for range 20000 {
		checkSide(t, spot{X: next(256), Y: next(256)}, spot{X: next(256), Y: next(256)}, spot{X: next(256), Y: next(256)})
	}
}

func TestSideNamedEdges(t *testing.T) {
	far := spot{X: 255, Y: 255}
	cases := []struct {
		a, b, c spot
		want    int64
	}{
		{spot{}, spot{X: 4}, spot{X: 2, Y: 1}, 1}, {spot{}, spot{X: 4}, spot{X: 200, Y: 1}, 1},
		{spot{Y: 1}, spot{X: 4, Y: 1}, spot{X: 2}, -1}, {spot{Y: 9}, spot{}, spot{X: 1, Y: 5}, 1},
		{spot{X: 1}, spot{X: 1, Y: 9}, spot{Y: 5}, 1}, {spot{}, spot{Y: 9}, spot{X: 1, Y: 5}, -1},
		{spot{}, spot{X: 4}, spot{X: 255}, 0}, {spot{X: 3}, spot{X: 4}, spot{}, 0},
		{spot{}, far, spot{X: 254, Y: 255}, 1}, {spot{}, far, spot{X: 255, Y: 254}, -1}, {spot{}, far, spot{X: 100, Y: 100}, 0},
		{far, spot{}, spot{X: 254, Y: 255}, -1}, {spot{X: 255}, spot{Y: 255}, spot{}, 1}, {spot{X: 255}, spot{Y: 255}, far, -1},
		{far, far, far, 0}, {spot{}, spot{}, far, 0}, {spot{}, far, far, 0}, {spot{}, far, spot{}, 0},
	}
	for _, c := range cases {
		if got := impl.Side(c.a, c.b, c.c); got != c.want {
			t.Errorf("Side(%v, %v, %v) = %d, not %d", c.a, c.b, c.c, got, c.want)
		}
	}
}

func TestSideOfWrongSpots(t *testing.T) {
	a, b := spot{X: 1, Y: 2}, spot{X: 200, Y: 77}
	for _, s := range wrongSpots() {
		for _, o := range append([]spot{a, b}, wrongSpots()...) {
			for _, got := range []int64{impl.Side(s, a, o), impl.Side(a, s, o), impl.Side(a, o, s), impl.Side(s, o, a), impl.Side(o, s, b), impl.Side(o, b, s)} {
				if got != 0 {
					t.Fatalf("Side of %v, %v and a right one = %d", s, o, got)
				}
			}
		}
	}
}

func TestShapeArgumentsStay(t *testing.T) {
	lists := slices.Concat(someShapes(60, 20, 9), [][]spot{nil, bow(1), bow(2), bow(12), bow(13), make([]spot, 12), wrongSpots()[:12]})
	for _, list := range lists {
		all := slices.Concat(list, slices.Repeat([]spot{{X: 111, Y: 222}}, 40))
		was := slices.Clone(all)
		given := all[:len(list)]
		for range 2 {
			impl.ShapeOk(given)
			impl.Double(given)
			impl.Edge(given)
			impl.Within(given)
		}
		if !slices.Equal(all, was) {
			t.Fatalf("%v was changed, or the room behind it", list)
		}
	}
}

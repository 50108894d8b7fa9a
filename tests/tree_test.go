package tests

import (
	"cmp"
	"math"
	"slices"
	"testing"

	"loop.example/g00301/impl"
)

type mark = impl.Mark
type node = impl.Node
type tree = impl.Tree

func leafOf(box rect, ids ...int64) node { return node{Box: box, Leaf: true, Parts: ids} }

func forkOf(box rect, numbers ...int64) node { return node{Box: box, Parts: numbers} }

// treeOf is what Marks become, by what each Node has in all: of a row as many
// Marks each as four times those of the row ahead of it.
func treeOf(marks []mark) tree {
	all := tree{Marks: marks}
	inOrder := slices.Clone(marks)
	slices.SortStableFunc(inOrder, func(a, b mark) int { return cmp.Compare(inTurn(a.At), inTurn(b.At)) })
	for each, begin := 4, 0; len(marks) > 0; each *= 4 {
		next := len(all.Nodes)
		for from := 0; from < len(inOrder); from += each {
			some := inOrder[from:min(from+each, len(inOrder))]
			box := boxOf(placesOf(some))
			if each == 4 {
				all.Nodes = append(all.Nodes, leafOf(box, idsIn(some)...))
				continue
			}
			var parts []int64
			for part := 0; part < len(some); part += each / 4 {
				parts = append(parts, int64(begin+(from+part)/(each/4)))
			}
			all.Nodes = append(all.Nodes, forkOf(box, parts...))
		}
		if len(all.Nodes)-next == 1 {
			break
		}
		begin = next
	}
	return all
}

func placesOf(marks []mark) []spot {
	var list []spot
	for _, m := range marks {
		list = append(list, m.At)
	}
	return list
}

func idsIn(marks []mark) []int64 {
	var list []int64
	for _, m := range marks {
		list = append(list, m.Id)
	}
	return list
}

func alikeNodes(a, b node) bool {
	return a.Box == b.Box && a.Leaf == b.Leaf && slices.Equal(a.Parts, b.Parts)
}

func alikeTrees(a, b tree) bool {
	return slices.Equal(a.Marks, b.Marks) && slices.EqualFunc(a.Nodes, b.Nodes, alikeNodes)
}

// foundIn looks at all Marks; as Ids rise, so does what it finds.
func foundIn(marks []mark, r rect) []int64 {
	var list []int64
	for _, m := range marks {
		if isIn(r, m.At) {
			list = append(list, m.Id)
		}
	}
	return list
}

// nearIn puts all Marks in order, as the sort leaves alike ones as they stood.
func nearIn(marks []mark, s spot, k int64) []int64 {
	all := slices.Clone(marks)
	slices.SortStableFunc(all, func(a, b mark) int { return cmp.Compare(square(a.At, s), square(b.At, s)) })
	return idsIn(all[:min(k, int64(len(all)))])
}

// lookedIn goes through all Nodes: what a Node is in has all of its Box, and so
// meets what it meets.
func lookedIn(nodes []node, r rect) int64 {
	count := int64(0)
	for _, n := range nodes {
		if shared(n.Box, r) > 0 {
			count++
		}
	}
	return count
}

func checkPlanted(t *testing.T, marks []mark) tree {
	t.Helper()
	got := impl.Planted(marks)
	if want := treeOf(marks); !alikeTrees(got, want) {
		t.Fatalf("Planted(%v) = %v, not %v", marks, got, want)
	}
	if !impl.TreeOk(got) {
		t.Fatalf("TreeOk of what Planted makes of %v is false", marks)
	}
	return got
}

func checkFound(t *testing.T, x tree, r rect) {
	t.Helper()
	if got, want := impl.Found(x, r), foundIn(x.Marks, r); !slices.Equal(got, want) {
		t.Fatalf("of %v in %v is Found %v, not %v", x.Marks, r, got, want)
	}
	if got, want := impl.Looked(x, r), lookedIn(x.Nodes, r); got != want {
		t.Fatalf("of %v in %v is Looked %d, not %d", x.Marks, r, got, want)
	}
}

func checkNear(t *testing.T, x tree, s spot, k int64) {
	t.Helper()
	if got, want := impl.NearTo(x, s, k), nearIn(x.Marks, s, k); !slices.Equal(got, want) {
		t.Fatalf("of %v at most %d NearTo %v are %v, not %v", x.Marks, k, s, got, want)
	}
}

// someKs are 1, as many as there are, one less and more, and the most.
func someKs(count int) []int64 {
	var list []int64
	for _, k := range []int64{1, 2, 4, 5, int64(count) - 1, int64(count), int64(count) + 1, 59, 60} {
		if k >= 1 && k <= 60 {
			list = append(list, k)
		}
	}
	return list
}

// checkTree holds promise 8 and the words of the chapter.
func checkTree(t *testing.T, marks []mark, boxes []rect, places []spot) {
	t.Helper()
	x := checkPlanted(t, marks)
	for _, r := range boxes {
		checkFound(t, x, r)
	}
	for _, s := range places {
		for _, k := range someKs(len(marks)) {
			checkNear(t, x, s, k)
		}
	}
}

// checkNoTree asks for the fixed answers of what is no Tree.
func checkNoTree(t *testing.T, x tree) {
	t.Helper()
	if impl.TreeOk(x) {
		t.Fatalf("TreeOk(%v) is true", x)
	}
	for _, r := range []rect{wholeRect(), {X: 3, Y: 3, Wide: 2, High: 2}, {}} {
		if got, count := impl.Found(x, r), impl.Looked(x, r); len(got) != 0 || count != -1 {
			t.Fatalf("of %v in %v: Found %v, Looked %d", x, r, got, count)
		}
	}
	for _, k := range []int64{0, 1, 4, 60, 61} {
		if got := impl.NearTo(x, spot{X: 3, Y: 3}, k); len(got) != 0 {
			t.Fatalf("of %v: NearTo %v", x, got)
		}
	}
}

// checkNoMarks asks for the zero Tree, and for the answers of a Tree that has
// such Marks, whatever its Nodes.
func checkNoMarks(t *testing.T, marks []mark) {
	t.Helper()
	if got := impl.Planted(marks); !alikeTrees(got, tree{}) {
		t.Fatalf("Planted(%v) = %v", marks, got)
	}
	checkNoTree(t, tree{Marks: marks})
	checkNoTree(t, tree{Marks: marks, Nodes: []node{{Box: wholeRect(), Leaf: true, Parts: idsIn(marks)}}})
}

// marksAt have the Ids from 1 on.
func marksAt(places []spot) []mark {
	var list []mark
	for i, s := range places {
		list = append(list, mark{Id: int64(i) + 1, At: s})
	}
	return list
}

// someMarks are so many Marks by a fixed rule, with Ids that leave some out, in
// a square of that side.
func someMarks(count int, side int64, next func(below int64) int64) []mark {
	left, low, id := next(257-side), next(257-side), int64(0)
	var list []mark
	for range count {
		id += 1 + next([]int64{1, 3, 1666}[side%3])
		list = append(list, mark{Id: id, At: spot{X: left + next(side), Y: low + next(side)}})
	}
	return list
}

// someTrees are Marks of each count from 0 to 60, far from each other and so
// close together that many lie at one Spot.
func someTrees(seed uint32) [][]mark {
	next := someRule(seed)
	var all [][]mark
	for count := range 61 {
		for _, side := range []int64{1, 2, 4, 9, 31, 256} {
			all = append(all, someMarks(count, side, next))
		}
	}
	return all
}

// someBoxes are Rects that have all of them, some of them or none.
func someBoxes(marks []mark, next func(below int64) int64) []rect {
	list := []rect{wholeRect(), {X: next(256), Y: next(256), Wide: 1, High: 1}}
	for range 6 {
		x, y := next(256), next(256)
		list = append(list, rect{X: x, Y: y, Wide: 1 + next(256-x), High: 1 + next(256-y)})
	}
	if len(marks) == 0 {
		return list
	}
	box := boxOf(placesOf(marks))
	one := func() spot { return marks[next(int64(len(marks)))].At }
	list = append(list, box, boxOf([]spot{one()}))
	for range 6 {
		list = append(list, boxOf([]spot{one(), one()}))
	}
	return list
}

// backwards are 60 Spots from all over the grid, that last in z order first.
func backwards() []spot {
	var list []spot
	for i := range int64(60) {
		list = append(list, spot{X: 255 - 4*i, Y: 255 - 4*i})
	}
	return list
}

func cornerMarks(count int) []mark {
	return marksAt(slices.Repeat(gridCorners(), 20)[:count])
}

func TestTreeLimits(t *testing.T) {
	if impl.MaxId != 100000 || impl.MaxMarks != 60 {
		t.Fatal(impl.MaxId, impl.MaxMarks)
	}
}

func TestFoundIsFoundByLookingAtAll(t *testing.T) {
	next := someRule(80)
	for _, marks := range someTrees(81) {
		boxes := someBoxes(marks, next)
		places := []spot{{}, {X: 255, Y: 255}, {X: next(256), Y: next(256)}, {X: boxes[len(boxes)-1].X, Y: boxes[len(boxes)-1].Y}}
		checkTree(t, marks, boxes, places)
	}
}

// All of a small window, so that no way in which few Marks can lie is left out.
func TestTreesOfAllSmallLists(t *testing.T) {
	for _, c := range []struct {
		window rect
		count  int
	}{{rect{Wide: 3, High: 3}, 1}, {rect{X: 253, Y: 253, Wide: 3, High: 3}, 2}, {rect{X: 127, Y: 127, Wide: 2, High: 3}, 3}, {rect{X: 254, Wide: 2, High: 2}, 4}, {rect{Y: 127, Wide: 2, High: 2}, 5}} {
		boxes, places := rectsIn(c.window), spotsOf(c.window)
		for list := range allLists(places, c.count) {
			checkTree(t, marksAt(list), boxes, places)
		}
	}
}

// Each Rect of a window in which Marks lie thick, and each of its Spots.
func TestFoundInAllSmallRects(t *testing.T) {
	for _, window := range windows() {
		next := someRule(82)
		for _, count := range []int{5, 16, 17, 60} {
			var places []spot
			for range count {
				places = append(places, spot{X: window.X + next(4), Y: window.Y + next(4)})
			}
			checkTree(t, marksAt(places), rectsIn(window), spotsOf(window))
		}
	}
}

func TestNearToOfEveryK(t *testing.T) {
	next := someRule(83)
	for _, marks := range [][]mark{nil, someMarks(1, 9, next), someMarks(17, 3, next), someMarks(60, 256, next), someMarks(60, 4, next), cornerMarks(60)} {
		x := checkPlanted(t, marks)
		for _, s := range []spot{{}, {X: 127, Y: 128}, {X: 255}, {X: next(256), Y: next(256)}} {
			for k := int64(1); k <= 60; k++ {
				checkNear(t, x, s, k)
			}
		}
	}
}

// How many Nodes there are by how many Marks, and that all of them are looked
// at for the whole grid.
func TestHowManyNodes(t *testing.T) {
	for count, want := range map[int]int64{0: 0, 1: 1, 3: 1, 4: 1, 5: 3, 8: 3, 9: 4, 12: 4, 13: 5, 16: 5, 17: 8, 20: 8, 21: 9, 32: 11, 33: 13, 48: 16, 49: 18, 59: 20, 60: 20} {
		for _, places := range [][]spot{backwards(), slices.Repeat([]spot{{X: 9, Y: 7}}, 60), slices.Repeat(gridCorners(), 15)} {
			x := checkPlanted(t, marksAt(places[:count]))
			if got := int64(len(x.Nodes)); got != want {
				t.Fatalf("%d Marks have %d Nodes, not %d", count, got, want)
			}
			if got := impl.Looked(x, wholeRect()); got != want {
				t.Fatalf("of %d Marks is Looked %d, not %d", count, got, want)
			}
			if got := impl.Found(x, wholeRect()); !slices.Equal(got, idsIn(x.Marks)) {
				t.Fatalf("of %d Marks is Found %v", count, got)
			}
		}
	}
}

func TestPlantedNamedEdges(t *testing.T) {
	at := func(x, y int64) rect { return rect{X: x, Y: y, Wide: 1, High: 1} }
	corners, low := gridCorners(), spot{X: 7, Y: 9}
	cases := []struct {
		name  string
		marks []mark
		nodes []node
	}{
		{"none", nil, nil},
		{"none, not nil", []mark{}, nil},
		{"one", []mark{{Id: 8, At: low}}, []node{leafOf(at(7, 9), 8)}},
		{"the first Id", []mark{{Id: 1}}, []node{leafOf(at(0, 0), 1)}},
		{"the last Id", []mark{{Id: 100000, At: corners[2]}}, []node{leafOf(at(255, 255), 100000)}},
		{"both", []mark{{Id: 1, At: corners[2]}, {Id: 100000}}, []node{leafOf(wholeRect(), 100000, 1)}},
		{"two at one Spot", []mark{{Id: 3, At: low}, {Id: 5, At: low}}, []node{leafOf(at(7, 9), 3, 5)}},
		{"X ahead of Y", []mark{{Id: 1, At: spot{Y: 1}}, {Id: 2, At: spot{X: 1}}}, []node{leafOf(rect{Wide: 2, High: 2}, 2, 1)}},
		{"the grid's corners", marksAt(corners), []node{leafOf(wholeRect(), 1, 2, 4, 3)}},
		{"five at one Spot", marksAt(slices.Repeat([]spot{low}, 5)), []node{leafOf(at(7, 9), 1, 2, 3, 4), leafOf(at(7, 9), 5), forkOf(at(7, 9), 0, 1)}},
		{"five, the last one in between", append(marksAt(corners), mark{Id: 9, At: spot{X: 128}}), []node{leafOf(wholeRect(), 1, 9, 2, 4), leafOf(at(255, 255), 3), forkOf(wholeRect(), 0, 1)}},
	}
	for _, c := range cases {
		got := checkPlanted(t, c.marks)
		if want := (tree{Marks: c.marks, Nodes: c.nodes}); !alikeTrees(got, want) {
			t.Errorf("%s: Planted(%v) = %v, not %v", c.name, c.marks, got, want)
		}
	}
}

// A Node that is left over at the end of its row gets one above it all the same,
// of which it is the only part.
func TestPlantedOfSeventeenAndSixty(t *testing.T) {
	places := backwards()
	slices.Reverse(places)
	x := checkPlanted(t, marksAt(places[:17]))
	box := func(from, past int) rect { return boxOf(places[from:past]) }
	want := []node{
		leafOf(box(0, 4), 1, 2, 3, 4), leafOf(box(4, 8), 5, 6, 7, 8),
		leafOf(box(8, 12), 9, 10, 11, 12), leafOf(box(12, 16), 13, 14, 15, 16), leafOf(box(16, 17), 17),
		forkOf(box(0, 16), 0, 1, 2, 3), forkOf(box(16, 17), 4), forkOf(box(0, 17), 5, 6),
	}
	if !slices.EqualFunc(x.Nodes, want, alikeNodes) {
		t.Fatalf("of 17: %v", x.Nodes)
	}
	x = checkPlanted(t, marksAt(places))
	last := []node{forkOf(box(0, 16), 0, 1, 2, 3), forkOf(box(16, 32), 4, 5, 6, 7), forkOf(box(32, 48), 8, 9, 10, 11), forkOf(box(48, 60), 12, 13, 14), forkOf(box(0, 60), 15, 16, 17, 18)}
	if !slices.EqualFunc(x.Nodes[15:], last, alikeNodes) {
		t.Fatalf("of 60: %v", x.Nodes)
	}
}

func TestFoundNamedEdges(t *testing.T) {
	places := backwards()
	slices.Reverse(places)
	row, corners, one := impl.Planted(marksAt(places)), impl.Planted(marksAt(gridCorners())), impl.Planted([]mark{{Id: 8, At: spot{X: 7, Y: 9}}})
	cases := []struct {
		name   string
		x      tree
		r      rect
		found  []int64
		looked int64
	}{
		{"none in the whole grid", tree{}, wholeRect(), nil, 0},
		{"none in a Spot", tree{Marks: []mark{}, Nodes: []node{}}, rect{Wide: 1, High: 1}, nil, 0},
		{"one in the whole grid", one, wholeRect(), []int64{8}, 1},
		{"one at its Spot", one, rect{X: 7, Y: 9, Wide: 1, High: 1}, []int64{8}, 1},
		{"one beside it", one, rect{X: 8, Y: 9, Wide: 1, High: 1}, nil, 0},
		{"one above it", one, rect{X: 7, Y: 10, Wide: 200, High: 1}, nil, 0},
		{"one below it", one, rect{Wide: 256, High: 9}, nil, 0},
		{"the corners", corners, wholeRect(), []int64{1, 2, 3, 4}, 1},
		{"the left ones", corners, rect{Wide: 1, High: 256}, []int64{1, 4}, 1},
		{"the upper ones", corners, rect{Y: 255, Wide: 256, High: 1}, []int64{3, 4}, 1},
		{"the last one", corners, rect{X: 255, Y: 255, Wide: 1, High: 1}, []int64{3}, 1},
		{"none of them, within their Box", corners, rect{X: 1, Y: 1, Wide: 254, High: 254}, nil, 1},
		{"the first of a row", row, rect{X: places[0].X, Y: places[0].Y, Wide: 1, High: 1}, []int64{1}, 3},
		{"the last of a row", row, rect{X: 255, Y: 255, Wide: 1, High: 1}, []int64{60}, 3},
		{"two of a row, in two Leaves", row, boxOf(places[3:5]), []int64{4, 5}, 4},
		{"two of a row, in two Leaves that no fork has", row, boxOf(places[15:17]), []int64{16, 17}, 5},
		{"between two of a row", row, rect{X: places[0].X + 1, Y: places[0].Y + 1, Wide: 3, High: 3}, nil, 3},
		{"between two Leaves of a row", row, rect{X: places[3].X + 1, Y: places[3].Y + 1, Wide: 3, High: 3}, nil, 2},
		{"between two forks of a row", row, rect{X: places[15].X + 1, Y: places[15].Y + 1, Wide: 3, High: 3}, nil, 1},
		{"ahead of a row", row, rect{Wide: places[0].X, High: 256}, nil, 0},
		{"all of a row", row, boxOf(places), idsIn(row.Marks), 20},
	}
	for _, c := range cases {
		if found, looked := impl.Found(c.x, c.r), impl.Looked(c.x, c.r); !slices.Equal(found, c.found) || looked != c.looked {
			t.Errorf("%s: Found %v, Looked %d, not %v and %d", c.name, found, looked, c.found, c.looked)
		}
		checkFound(t, c.x, c.r)
	}
}

func TestNearToNamedEdges(t *testing.T) {
	around := impl.Planted([]mark{{Id: 2, At: spot{X: 11, Y: 10}}, {Id: 4, At: spot{X: 10, Y: 11}}, {Id: 6, At: spot{X: 10, Y: 10}}, {Id: 7, At: spot{X: 9, Y: 10}}, {Id: 9, At: spot{X: 12, Y: 10}}})
	cases := []struct {
		name string
		x    tree
		s    spot
		k    int64
		want []int64
	}{
		{"of none", tree{}, spot{}, 1, nil},
		{"of none the most", tree{Marks: []mark{}, Nodes: []node{}}, spot{}, 60, nil},
		{"of one", impl.Planted([]mark{{Id: 8, At: spot{X: 255, Y: 255}}}), spot{}, 1, []int64{8}},
		{"of one more", impl.Planted([]mark{{Id: 8, At: spot{X: 255, Y: 255}}}), spot{}, 2, []int64{8}},
		{"one", around, spot{X: 10, Y: 10}, 1, []int64{6}},
		{"two, of three alike the least Id", around, spot{X: 10, Y: 10}, 2, []int64{6, 2}},
		{"all but one", around, spot{X: 10, Y: 10}, 4, []int64{6, 2, 4, 7}},
		{"all", around, spot{X: 10, Y: 10}, 5, []int64{6, 2, 4, 7, 9}},
		{"more", around, spot{X: 10, Y: 10}, 6, []int64{6, 2, 4, 7, 9}},
		{"the most", around, spot{X: 10, Y: 10}, 60, []int64{6, 2, 4, 7, 9}},
		{"from afar", around, spot{X: 255, Y: 10}, 3, []int64{9, 2, 6}},
		{"at one Spot", impl.Planted(marksAt(slices.Repeat([]spot{{X: 5, Y: 5}}, 60))), spot{X: 200, Y: 1}, 3, []int64{1, 2, 3}},
		{"the corners from the middle", impl.Planted(marksAt(gridCorners())), spot{X: 127, Y: 127}, 4, []int64{1, 2, 4, 3}},
	}
	for _, c := range cases {
		if got := impl.NearTo(c.x, c.s, c.k); !slices.Equal(got, c.want) {
			t.Errorf("%s: %v, not %v", c.name, got, c.want)
		}
		checkNear(t, c.x, c.s, c.k)
	}
}

func TestSixtyMarksAndSixtyOne(t *testing.T) {
	next := someRule(84)
	for _, all := range [][]mark{someMarks(80, 256, next), someMarks(80, 1, next), cornerMarks(80)} {
		for _, count := range []int{59, 60} {
			checkTree(t, all[:count], someBoxes(all, next), gridCorners())
		}
		for _, count := range []int{61, 62, 80} {
			checkNoMarks(t, all[:count])
		}
	}
}

func TestWrongMarks(t *testing.T) {
	for _, id := range []int64{0, -1, 100001, 1 << 32, 1<<32 + 5, math.MinInt64, math.MaxInt64} {
		checkNoMarks(t, []mark{{Id: id, At: spot{X: 3, Y: 3}}})
	}
	next := someRule(85)
	for _, count := range []int{1, 4, 5, 17, 60} {
		right := someMarks(count, 31, next)
		for i := range right {
			wrong := slices.Clone(right)
			for _, s := range wrongSpots() {
				wrong[i] = mark{Id: right[i].Id, At: s}
				checkNoMarks(t, wrong)
			}
			for _, id := range []int64{0, -right[i].Id, math.MinInt64, 100001, math.MaxInt64} {
				wrong[i] = mark{Id: id, At: right[i].At}
				checkNoMarks(t, wrong)
			}
		}
	}
}

func TestIdsThatDoNotRise(t *testing.T) {
	next := someRule(86)
	for _, count := range []int{2, 3, 5, 16, 60} {
		right := someMarks(count, 256, next)
		for i := range count - 1 {
			alike, falling := slices.Clone(right), slices.Clone(right)
			alike[i+1].Id = alike[i].Id
			checkNoMarks(t, alike)
			alike[i+1] = alike[i]
			checkNoMarks(t, alike)
			falling[i], falling[i+1] = falling[i+1], falling[i]
			checkNoMarks(t, falling)
		}
		slices.Reverse(right)
		checkNoMarks(t, right)
	}
}

func copied(x tree) tree {
	own := tree{Marks: slices.Clone(x.Marks)}
	for _, n := range x.Nodes {
		n.Parts = slices.Clone(n.Parts)
		own.Nodes = append(own.Nodes, n)
	}
	return own
}

// otherNodes are what a Node may be beside what it is: each field, by itself,
// is another one.
func otherNodes(n node) []node {
	var list []node
	for _, by := range []int64{-1, 1, 1000, math.MaxInt64} {
		for _, move := range []func(r *rect) *int64{
			func(r *rect) *int64 { return &r.X }, func(r *rect) *int64 { return &r.Y },
			func(r *rect) *int64 { return &r.Wide }, func(r *rect) *int64 { return &r.High },
		} {
			other := n
			*move(&other.Box) += by
			list = append(list, other)
		}
	}
	parts := func(parts []int64) { list = append(list, node{Box: n.Box, Leaf: n.Leaf, Parts: parts}) }
	list = append(list, node{}, node{Box: n.Box, Leaf: !n.Leaf, Parts: n.Parts}, node{Leaf: n.Leaf, Parts: n.Parts})
	parts(nil)
	parts(n.Parts[1:])
	parts(append(slices.Clone(n.Parts), n.Parts[0]))
	parts(append(slices.Clone(n.Parts), 0))
	for i, part := range n.Parts {
		for _, other := range []int64{part + 1, part - 1, -1, math.MinInt64, math.MaxInt64, 100001} {
			changed := slices.Clone(n.Parts)
			changed[i] = other
			parts(changed)
		}
	}
	if len(n.Parts) > 1 {
		turned := slices.Clone(n.Parts)
		slices.Reverse(turned)
		parts(turned)
		parts(n.Parts[:len(n.Parts)-1])
	}
	return list
}

func TestTreesWithAnotherNode(t *testing.T) {
	next := someRule(87)
	for _, marks := range [][]mark{someMarks(1, 9, next), someMarks(4, 31, next), someMarks(5, 31, next), someMarks(17, 4, next), someMarks(60, 256, next), cornerMarks(16)} {
		right := impl.Planted(marks)
		for i, n := range right.Nodes {
			for _, other := range otherNodes(n) {
				wrong := copied(right)
				wrong.Nodes[i] = other
				checkNoTree(t, wrong)
			}
			less, more, twice := copied(right), copied(right), copied(right)
			less.Nodes = slices.Delete(less.Nodes, i, i+1)
			checkNoTree(t, less)
			more.Nodes = slices.Insert(more.Nodes, i, node{})
			checkNoTree(t, more)
			twice.Nodes = append(twice.Nodes, n)
			checkNoTree(t, twice)
		}
		checkNoTree(t, tree{Marks: marks})
		checkNoTree(t, tree{Nodes: right.Nodes})
		if !impl.TreeOk(copied(right)) {
			t.Fatalf("TreeOk of a copy of %v is false", right)
		}
	}
	checkNoTree(t, tree{Nodes: []node{{}}})
	checkNoTree(t, tree{Nodes: []node{{Box: wholeRect(), Leaf: true}}})
	checkNoTree(t, tree{Nodes: make([]node, 100000)})
}

// A Node that is in itself, and Nodes that are in each other, are no Tree.
func TestTreesThatGoRound(t *testing.T) {
	marks := cornerMarks(5)
	checkNoTree(t, tree{Marks: marks, Nodes: []node{forkOf(wholeRect(), 0, 0, 0, 0)}})
	checkNoTree(t, tree{Marks: marks, Nodes: []node{forkOf(wholeRect(), 2), forkOf(wholeRect(), 0), forkOf(wholeRect(), 0, 1)}})
}

// A Mark that lies or is named otherwise mostly makes another Tree: it is one
// where Planted makes just these Nodes of it.
func TestTreesWithAnotherMark(t *testing.T) {
	next := someRule(88)
	changed, stays := 0, 0
	for _, marks := range [][]mark{someMarks(4, 9, next), someMarks(17, 256, next), someMarks(60, 31, next), someMarks(60, 256, next), someMarks(33, 2, next)} {
		right := impl.Planted(marks)
		for i, m := range marks {
			others := []mark{{Id: m.Id + 1, At: m.At}, {Id: m.Id - 1, At: m.At}}
			for _, s := range []spot{{X: m.At.X ^ 1, Y: m.At.Y}, {X: m.At.X, Y: m.At.Y ^ 1}, {X: m.At.Y, Y: m.At.X}, {}, {X: next(256), Y: next(256)}} {
				others = append(others, mark{Id: m.Id, At: s})
			}
			for _, other := range others {
				x := copied(right)
				x.Marks[i] = other
				rises := slices.IsSortedFunc(x.Marks, func(a, b mark) int { return cmp.Or(cmp.Compare(a.Id, b.Id), 1) })
				if want := rises && x.Marks[0].Id > 0 && alikeTrees(x, treeOf(x.Marks)); want {
					checkFound(t, x, wholeRect())
					stays++
				} else {
					checkNoTree(t, x)
					changed++
				}
			}
		}
		less := copied(right)
		less.Marks = less.Marks[:len(marks)-1]
		checkNoTree(t, less)
		more := copied(right)
		more.Marks = append(more.Marks, mark{Id: 100000, At: spot{X: 3, Y: 3}})
		checkNoTree(t, more)
	}
	if changed < 300 || stays < 30 {
		t.Fatalf("%d were another Tree, %d stayed one", changed, stays)
	}
}

func TestRightTreesAskedWrongly(t *testing.T) {
	next := someRule(89)
	for _, marks := range [][]mark{nil, someMarks(1, 9, next), someMarks(5, 31, next), someMarks(60, 256, next)} {
		x := checkPlanted(t, marks)
		for _, r := range wrongRects() {
			if found, looked := impl.Found(x, r), impl.Looked(x, r); len(found) != 0 || looked != -1 {
				t.Fatalf("of %v in %v: Found %v, Looked %d", marks, r, found, looked)
			}
		}
		for _, s := range wrongSpots() {
			for _, k := range []int64{1, 5, 60} {
				if got := impl.NearTo(x, s, k); len(got) != 0 {
					t.Fatalf("of %v NearTo %v: %v", marks, s, got)
				}
			}
		}
		for _, k := range slices.Concat(belowNought(), []int64{0, 61, 62, 1 << 32, 1<<32 + 1, math.MaxInt64}) {
			if got := impl.NearTo(x, spot{X: 3, Y: 3}, k); len(got) != 0 {
				t.Fatalf("of %v at most %d: %v", marks, k, got)
			}
		}
	}
}

// withSpareRoom is the Tree with room behind each of its lists, in which
// something stands.
func withSpareRoom(x tree) tree {
	own := copied(x)
	for i, n := range own.Nodes {
		own.Nodes[i].Parts = append(n.Parts, 77, 77, 77, 77)[:len(n.Parts)]
	}
	own.Nodes = append(own.Nodes, node{Parts: []int64{5}}, node{Parts: []int64{6}})[:len(own.Nodes)]
	own.Marks = append(own.Marks, mark{Id: 77}, mark{Id: 78})[:len(own.Marks)]
	return own
}

// isUntouched asks whether a Tree is as withSpareRoom made it of another one.
func isUntouched(x, was tree) bool {
	return alikeTrees(x, was) && alikeTrees(withAllRoom(x), withAllRoom(withSpareRoom(was)))
}

func withAllRoom(x tree) tree {
	own := tree{Marks: x.Marks[:len(x.Marks)+2], Nodes: slices.Clone(x.Nodes[:len(x.Nodes)+2])}
	for i, n := range x.Nodes {
		own.Nodes[i].Parts = n.Parts[:len(n.Parts)+4]
	}
	return own
}

func wipe[T any](list []T) { clear(list[:cap(list)]) }

func TestTreeArgumentsStay(t *testing.T) {
	next := someRule(90)
	for _, marks := range someTrees(91) {
		right := impl.Planted(marks)
		wrong := copied(right)
		if len(marks) > 0 {
			wrong.Nodes[len(wrong.Nodes)-1].Box.X += 3
		}
		for _, was := range []tree{right, wrong} {
			x := withSpareRoom(was)
			for _, r := range someBoxes(marks, next)[:4] {
				wipe(impl.Found(x, r))
				impl.Looked(x, r)
			}
			wipe(impl.NearTo(x, spot{X: 3, Y: 9}, 60))
			impl.TreeOk(x)
			planted := impl.Planted(x.Marks)
			wipe(planted.Marks)
			for _, n := range planted.Nodes {
				wipe(n.Parts)
			}
			wipe(planted.Nodes)
			if !isUntouched(x, was) {
				t.Fatalf("%v was changed, or the room behind it", was)
			}
		}
	}
	falling := []mark{{Id: 5}, {Id: 3}, {Id: 9}}
	if impl.Planted(falling[:2]); !slices.Equal(falling, []mark{{Id: 5}, {Id: 3}, {Id: 9}}) {
		t.Fatal(falling)
	}
}

func TestTreeAnswersAreNew(t *testing.T) {
	next := someRule(92)
	marks := someMarks(60, 31, next)
	x, s := impl.Planted(marks), spot{X: 9, Y: 9}
	for range 2 {
		wipe(impl.Found(x, wholeRect()))
		wipe(impl.NearTo(x, s, 60))
		other := impl.Planted(marks)
		for _, n := range other.Nodes {
			wipe(n.Parts)
		}
		wipe(other.Marks)
		wipe(other.Nodes)
		checkFound(t, x, wholeRect())
		checkNear(t, x, s, 60)
		checkPlanted(t, marks)
	}
}

// What is put into one list of a Tree, or behind it, is in none of the others.
func TestListsOfATreeShareNoMemory(t *testing.T) {
	next := someRule(93)
	marks := someMarks(60, 31, next)
	want := treeOf(marks)
	for i := range want.Nodes {
		got := impl.Planted(marks)
		wipe(got.Nodes[i].Parts)
		got.Nodes[i].Parts = want.Nodes[i].Parts
		if !alikeTrees(got, want) {
			t.Fatalf("the Parts of Node %d share their memory: %v", i, got)
		}
	}
	got := impl.Planted(marks)
	wipe(got.Marks)
	got.Marks = marks
	if !alikeTrees(got, want) {
		t.Fatalf("the Marks share their memory: %v", got)
	}
}

// What was asked ahead of it leaves nothing behind.
func TestTreesHangOnTheirMarksAlone(t *testing.T) {
	lists := someTrees(94)
	var first []tree
	for _, marks := range lists {
		first = append(first, impl.Planted(marks))
	}
	for i := len(lists) - 1; i >= 0; i-- {
		if got := impl.Planted(lists[i]); !alikeTrees(got, first[i]) {
			t.Fatalf("Planted(%v) = %v, but %v at first", lists[i], got, first[i])
		}
	}
}

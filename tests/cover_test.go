package tests

import (
	"math"
	"math/bits"
	"slices"
	"testing"

	"loop.example/g00301/impl"
)

// gridSet has for each Spot how many Cells of a list have it. What the program
// answers is held against such sets, which are made without it.
type gridSet [256][256]int

func setOf(list []cell) *gridSet {
	var set gridSet
	for _, c := range list {
		side := int64(256) >> c.Level
		for x := c.X * side; x < (c.X+1)*side; x++ {
			for y := c.Y * side; y < (c.Y+1)*side; y++ {
				set[x][y]++
			}
		}
	}
	return &set
}

func setOfRect(r rect) *gridSet {
	var set gridSet
	for _, s := range spotsOf(r) {
		set[s.X][s.Y]++
	}
	return &set
}

// once has each Spot of a set just one time.
func (set *gridSet) once() *gridSet {
	var out gridSet
	for x := range 256 {
		for y := range 256 {
			out[x][y] = min(set[x][y], 1)
		}
	}
	return &out
}

func (set *gridSet) and(other *gridSet) *gridSet {
	var out gridSet
	for x := range 256 {
		for y := range 256 {
			out[x][y] = min(set[x][y], other[x][y], 1)
		}
	}
	return &out
}

func (set *gridSet) hasAll(other *gridSet) bool {
	for x := range 256 {
		for y := range 256 {
			if other[x][y] > 0 && set[x][y] == 0 {
				return false
			}
		}
	}
	return true
}

// corner is the number of a Cell's least Spot in z order.
func corner(c cell) int64 {
	side := int64(256) >> c.Level
	return inTurn(spot{X: c.X * side, Y: c.Y * side})
}

func fourQuarters(c cell) []cell {
	return []cell{
		{Level: c.Level + 1, X: 2 * c.X, Y: 2 * c.Y}, {Level: c.Level + 1, X: 2*c.X + 1, Y: 2 * c.Y},
		{Level: c.Level + 1, X: 2 * c.X, Y: 2*c.Y + 1}, {Level: c.Level + 1, X: 2*c.X + 1, Y: 2*c.Y + 1},
	}
}

// isFewest asks of an answer what the document asks: just these Spots, each
// once, in order, and no four that are the quarters of one Cell.
func isFewest(t *testing.T, what any, got []cell, want *gridSet) {
	t.Helper()
	count := map[cell]int{}
	for i, c := range got {
		if !impl.CellOk(c) {
			t.Fatalf("%v: %v is no Cell", what, c)
		}
		if i > 0 && corner(got[i-1]) >= corner(c) {
			t.Fatalf("%v: %v, then %v", what, got[i-1], c)
		}
		up := cell{Level: c.Level - 1, X: c.X / 2, Y: c.Y / 2}
		if count[up]++; c.Level > 0 && count[up] == 4 {
			t.Fatalf("%v: %v has all Quarters of %v", what, got, up)
		}
	}
	if *setOf(got) != *want {
		t.Fatalf("%v: %v has not just its Spots, each once", what, got)
	}
}

// someRule gives numbers by a fixed rule, the same ones at each run.
func someRule(h uint32) func(below int64) int64 {
	return func(below int64) int64 {
		h = h*1664525 + 1013904223
		return int64(h>>8) % below
	}
}

// someLists are lists of Cells by a fixed rule: all over the grid, or close
// together (so that many are alike, inside others, or quarters of one Cell).
func someLists(n int) [][]cell {
	next := someRule(7)
	var lists [][]cell
	for i := range n {
		list := []cell{}
		count := 1 + next(int64(1+i%impl.MaxCells))
		near := spot{X: next(256), Y: next(256)}
		for range count {
			level := next(9)
			side := int64(256) >> level
			s := spot{X: next(256), Y: next(256)}
			if i%3 != 0 {
				level = 5 + next(4)
				side = int64(256) >> level
				s = spot{X: (near.X &^ 7) + next(8), Y: (near.Y &^ 7) + next(8)}
			}
			list = append(list, cell{Level: level, X: s.X / side, Y: s.Y / side})
		}
		lists = append(lists, list)
	}
	return lists
}

// edgeLists are right lists at the edges that the document names.
func edgeLists() [][]cell {
	grid, zero, last := cell{}, cell{Level: 8}, cell{Level: 8, X: 255, Y: 255}
	loose := make([]cell, 0, impl.MaxCells)
	for i := range int64(impl.MaxCells) {
		loose = append(loose, cell{Level: 8, X: 2 * (i % 10), Y: 2 * (i / 10)})
	}
	full := slices.Concat(cellsOf(3), loose[:impl.MaxCells-64])
	backwards := slices.Clone(cellsOf(3))
	slices.Reverse(backwards)
	return [][]cell{
		nil, {}, {grid}, {zero}, {last}, {zero, last}, {last, zero}, {zero, zero, zero},
		{grid, grid}, {grid, zero}, {zero, grid}, {last, grid, zero},
		slices.Repeat([]cell{grid}, impl.MaxCells), slices.Repeat([]cell{last}, impl.MaxCells),
		loose, full, cellsOf(3), backwards, cellsOf(3)[1:], cellsOf(3)[:63], cellsOf(2), cellsOf(1),
		fourQuarters(cell{Level: 7}), fourQuarters(cell{Level: 7, X: 127, Y: 127}), fourQuarters(cell{Level: 3, X: 1})[1:],
		{{Level: 1, X: 1}, {Level: 1, Y: 1}, {Level: 1}}, {{Level: 7, X: 1}, {Level: 8, X: 3}, {Level: 6}},
		{{Level: 8, X: 1}, {Level: 8, X: 2}, {Level: 8, X: 1, Y: 1}, {Level: 8, X: 2, Y: 1}},
	}
}

func rightLists(n int) [][]cell { return append(edgeLists(), someLists(n)...) }

// wrongLists are lists that are too long, or have one Cell that is not right,
// at their beginning, in the midst of them, or at their end.
func wrongLists() [][]cell {
	lists := [][]cell{
		make([]cell, impl.MaxCells+1), slices.Repeat([]cell{{Level: 8, X: 3}}, impl.MaxCells+1),
		slices.Concat(cellsOf(3), cellsOf(3)[:impl.MaxCells+1-64]), cellsOf(5),
	}
	right := []cell{{}, {Level: 1}, {Level: 8, X: 7, Y: 9}}
	for i, c := range wrongCells() {
		lists = append(lists, []cell{c}, slices.Insert(slices.Clone(right), i%4, c))
	}
	full := make([]cell, impl.MaxCells)
	full[impl.MaxCells-1] = cell{Level: 8, X: 256}
	return append(lists, full)
}

func TestCoverOfAllSmallRects(t *testing.T) {
	for _, window := range append(windows(), rect{X: 126, Y: 126, Wide: 4, High: 4}, rect{X: 61, Y: 190, Wide: 5, High: 4}) {
		for _, r := range rectsIn(window) {
			isFewest(t, r, impl.Cover(r), setOfRect(r))
		}
	}
}

func TestCoverOfGreatRects(t *testing.T) {
	list := greatRects(200)
	for _, n := range []int64{1, 2, 127, 128, 129, 254, 255} {
		list = append(list, rect{X: n, Y: n, Wide: 256 - n, High: 256 - n}, rect{Wide: n, High: n}, rect{X: n, Wide: 1, High: 256}, rect{Y: n, Wide: 256, High: 1})
	}
	list = append(list, rect{X: 1, Y: 1, Wide: 254, High: 254}, rect{X: 127, Y: 127, Wide: 2, High: 2})
	for _, r := range list {
		isFewest(t, r, impl.Cover(r), setOfRect(r))
	}
}

func TestCoverOfACellIsItself(t *testing.T) {
	for level := int64(0); level <= 8; level++ {
		side := int64(256) >> level
		for _, c := range cellsOf(level) {
			r := rect{X: c.X * side, Y: c.Y * side, Wide: side, High: side}
			if got := impl.Cover(r); !slices.Equal(got, []cell{c}) {
				t.Fatalf("Cover(%v) = %v, not %v", r, got, c)
			}
		}
	}
}

func TestCoverNamedEdges(t *testing.T) {
	cases := []struct {
		r    rect
		want []cell
	}{
		{rect{Wide: 256, High: 256}, []cell{{}}},
		{rect{Wide: 1, High: 1}, []cell{{Level: 8}}},
		{rect{X: 255, Y: 255, Wide: 1, High: 1}, []cell{{Level: 8, X: 255, Y: 255}}},
		{rect{X: 255, Wide: 1, High: 1}, []cell{{Level: 8, X: 255}}},
		{rect{Wide: 3, High: 2}, []cell{{Level: 7}, {Level: 8, X: 2}, {Level: 8, X: 2, Y: 1}}},
		{rect{Wide: 2, High: 3}, []cell{{Level: 7}, {Level: 8, Y: 2}, {Level: 8, X: 1, Y: 2}}},
		{rect{Wide: 256, High: 128}, []cell{{Level: 1}, {Level: 1, X: 1}}},
		{rect{X: 128, Wide: 128, High: 256}, []cell{{Level: 1, X: 1}, {Level: 1, X: 1, Y: 1}}},
		{rect{X: 127, Y: 127, Wide: 2, High: 2}, []cell{{Level: 8, X: 127, Y: 127}, {Level: 8, X: 128, Y: 127}, {Level: 8, X: 127, Y: 128}, {Level: 8, X: 128, Y: 128}}},
	}
	for _, c := range cases {
		if got := impl.Cover(c.r); !slices.Equal(got, c.want) {
			t.Errorf("Cover(%v) = %v, not %v", c.r, got, c.want)
		}
	}
	// More than MaxCells may be needed: the limit is on what is handed in.
	if got := impl.Cover(rect{Y: 255, Wide: 256, High: 1}); len(got) != 256 {
		t.Errorf("a row has %d Cells", len(got))
	}
	for _, r := range wrongRects() {
		if got := impl.Cover(r); len(got) != 0 {
			t.Errorf("Cover(%v) = %v", r, got)
		}
	}
}

// fewestByTrying has for each set of the 16 Spots of a Cell of Level 6 (bit
// number X and 4 Y) with how few Cells it can be had, by trying all that have
// its first Spot. No two of them need overlap: of two that do, one is idle.
func fewestByTrying() []int {
	var pieces []uint16
	for _, side := range []int64{1, 2, 4} {
		for x := int64(0); x < 4; x += side {
			for y := int64(0); y < 4; y += side {
				pieces = append(pieces, bitsOfRect(rect{X: x, Y: y, Wide: side, High: side}))
			}
		}
	}
	fewest := make([]int, 1<<16)
	for set := 1; set < 1<<16; set++ {
		fewest[set] = 17
		first := uint16(1) << bits.TrailingZeros16(uint16(set))
		for _, piece := range pieces {
			if piece&first != 0 && piece&^uint16(set) == 0 {
				fewest[set] = min(fewest[set], 1+fewest[set&^int(piece)])
			}
		}
	}
	return fewest
}

func bitsOfRect(r rect) uint16 {
	var set uint16
	for _, s := range spotsOf(r) {
		set |= 1 << (s.X + 4*s.Y)
	}
	return set
}

func TestWithFewerCellsItCannotBe(t *testing.T) {
	fewest := fewestByTrying()
	for _, r := range rectsIn(rect{Wide: 4, High: 4}) {
		moved := rect{X: r.X + 252, Y: r.Y + 100, Wide: r.Wide, High: r.High}
		if got, want := len(impl.Cover(moved)), fewest[bitsOfRect(r)]; got != want {
			t.Fatalf("Cover(%v) has %d Cells, not %d", moved, got, want)
		}
	}
	for set, want := range fewest {
		var list []cell
		for n := range int64(16) {
			if set>>n&1 == 1 {
				list = append(list, cell{Level: 8, X: 252 + n%4, Y: 100 + n/4})
			}
		}
		got := impl.Joined(list)
		if len(got) != want {
			t.Fatalf("Joined(%v) = %v, but %d are enough", list, got, want)
		}
		var has uint16
		for _, c := range got {
			side := int64(256) >> c.Level
			has |= bitsOfRect(rect{X: c.X*side - 252, Y: c.Y*side - 100, Wide: side, High: side})
		}
		if int(has) != set {
			t.Fatalf("Joined(%v) = %v", list, got)
		}
	}
}

func TestJoinedHasJustTheSpots(t *testing.T) {
	for _, list := range rightLists(300) {
		got := impl.Joined(list)
		isFewest(t, list, got, setOf(list).once())
		if again := impl.Joined(got); !slices.Equal(again, got) {
			t.Fatalf("Joined of %v = %v", got, again)
		}
		turned := slices.Clone(list)
		slices.Reverse(turned)
		middle := len(turned) / 3
		for _, other := range [][]cell{turned, slices.Concat(turned[middle:], turned[:middle])} {
			if again := impl.Joined(other); !slices.Equal(again, got) {
				t.Fatalf("Joined(%v) = %v, but in another order %v", list, got, again)
			}
		}
		if twice := slices.Concat(list, list); len(twice) <= impl.MaxCells && !slices.Equal(impl.Joined(twice), got) {
			t.Fatalf("Joined(%v) = %v, and twice %v", list, got, impl.Joined(twice))
		}
	}
}

func TestJoinedNamedEdges(t *testing.T) {
	grid := []cell{{}}
	cases := []struct{ list, want []cell }{
		{nil, nil}, {[]cell{}, nil}, {grid, grid}, {cellsOf(1), grid}, {cellsOf(2), grid}, {cellsOf(3), grid},
		{slices.Repeat(grid, impl.MaxCells), grid},
		{slices.Concat(cellsOf(3), cellsOf(8)[:impl.MaxCells-64]), grid},
		{[]cell{{Level: 8, X: 255, Y: 255}, {Level: 8}}, []cell{{Level: 8}, {Level: 8, X: 255, Y: 255}}},
		{[]cell{{Level: 8}, {Level: 7}, {Level: 8}}, []cell{{Level: 7}}},
		{[]cell{{Level: 2, X: 1}, {Level: 2, Y: 1}, {Level: 3}, {Level: 3, X: 1}, {Level: 2, X: 1, Y: 1}, {Level: 3, X: 1, Y: 1}, {Level: 3, Y: 1}}, []cell{{Level: 1}}},
		{[]cell{{Level: 1, Y: 1}, {Level: 1, X: 1}}, []cell{{Level: 1, X: 1}, {Level: 1, Y: 1}}},
		// Four that are one square, but not the quarters of one Cell.
		{[]cell{{Level: 2, X: 1}, {Level: 2, X: 2}, {Level: 2, X: 1, Y: 1}, {Level: 2, X: 2, Y: 1}}, []cell{{Level: 2, X: 1}, {Level: 2, X: 1, Y: 1}, {Level: 2, X: 2}, {Level: 2, X: 2, Y: 1}}},
	}
	for _, c := range cases {
		if got := impl.Joined(c.list); !slices.Equal(got, c.want) {
			t.Errorf("Joined(%v) = %v, not %v", c.list, got, c.want)
		}
	}
	if impl.MaxCells != 100 {
		t.Error("MaxCells", impl.MaxCells)
	}
}

func TestReachesSpotBySpot(t *testing.T) {
	for i, list := range rightLists(60) {
		set := setOf(list)
		for _, s := range wholeGrid() {
			// The short lists at every Spot, the others at every third and at the grid's corners.
			if len(list) > 4 && (s.X+s.Y+int64(i))%3 != 0 && s.X%255+s.Y%255 > 0 {
				continue
			}
			if got := impl.Reaches(list, s); got != (set[s.X][s.Y] > 0) {
				t.Fatalf("Reaches(%v, %v) = %v", list, s, got)
			}
		}
	}
}

func TestCoversSpotBySpot(t *testing.T) {
	lists := rightLists(60)
	sets := make([]*gridSet, len(lists))
	for i, list := range lists {
		sets[i] = setOf(list)
	}
	for i, list := range lists {
		for j, other := range lists {
			if got, want := impl.Covers(list, other), sets[i].hasAll(sets[j]); got != want {
				t.Fatalf("Covers(%v, %v) = %v", list, other, got)
			}
		}
	}
}

func TestCoversWhatItIsMadeOf(t *testing.T) {
	for _, list := range rightLists(200) {
		got := impl.Joined(list)
		if !impl.Covers(list, got) || !impl.Covers(got, list) || !impl.Covers([]cell{{}}, list) || !impl.Covers(list, nil) {
			t.Fatalf("%v and %v do not cover each other", list, got)
		}
		for i := range got {
			if less := slices.Delete(slices.Clone(got), i, i+1); impl.Covers(less, list) || !impl.Covers(list, less) {
				t.Fatalf("%v without %v covers %v, or the other way round not", got, got[i], list)
			}
		}
	}
}

func TestCoversNamedEdges(t *testing.T) {
	c := cell{Level: 7, X: 127, Y: 127}
	if !impl.Covers(nil, nil) || !impl.Covers([]cell{}, nil) || !impl.Covers([]cell{c}, nil) || impl.Covers(nil, []cell{c}) {
		t.Error("empty lists")
	}
	if !impl.Covers(fourQuarters(c), []cell{c}) || !impl.Covers([]cell{c}, fourQuarters(c)) || impl.Covers(fourQuarters(c)[1:], []cell{c}) {
		t.Error("a Cell and its Quarters")
	}
	if !impl.Covers(cellsOf(3), []cell{{}}) || impl.Covers(cellsOf(3)[1:], []cell{{}}) || !impl.Covers(slices.Repeat([]cell{{}}, impl.MaxCells), cellsOf(3)) {
		t.Error("the whole grid")
	}
	if impl.Covers([]cell{{Level: 8}}, []cell{{Level: 8}, {Level: 8, X: 255, Y: 255}}) || impl.Covers([]cell{{Level: 8, X: 255, Y: 255}}, []cell{{Level: 8}, {Level: 8, X: 255, Y: 255}}) {
		t.Error("one of two Spots")
	}
}

func TestCommonHasJustWhatBothHave(t *testing.T) {
	lists := rightLists(40)
	sets := make([]*gridSet, len(lists))
	for i, list := range lists {
		sets[i] = setOf(list)
	}
	for i, a := range lists {
		for j, b := range lists[:i+1] {
			got := impl.Common(a, b)
			isFewest(t, [][]cell{a, b}, got, sets[i].and(sets[j]))
			if turned := impl.Common(b, a); !slices.Equal(turned, got) {
				t.Fatalf("Common(%v, %v) = %v, the other way round %v", a, b, got, turned)
			}
		}
	}
}

func TestCommonOfCoversIsTheCoverOfWhatMeets(t *testing.T) {
	small := rectsIn(rect{X: 124, Y: 60, Wide: 6, High: 6})
	for i := 0; i < len(small); i += 7 {
		for j := 0; j < len(small); j += 11 {
			both, is := impl.Meet(small[i], small[j])
			var want []cell
			if is {
				want = impl.Cover(both)
			}
			if got := impl.Common(impl.Cover(small[i]), impl.Cover(small[j])); !slices.Equal(got, want) {
				t.Fatalf("Common of the Covers of %v and %v = %v, not %v", small[i], small[j], got, want)
			}
		}
	}
}

func TestCommonNamedEdges(t *testing.T) {
	for _, list := range rightLists(200) {
		want := impl.Joined(list)
		for _, other := range [][]cell{list, {{}}, cellsOf(3)} {
			if got := impl.Common(list, other); !slices.Equal(got, want) {
				t.Fatalf("Common(%v, %v) = %v, not %v", list, other, got, want)
			}
		}
		if len(impl.Common(list, nil)) != 0 || len(impl.Common(nil, list)) != 0 {
			t.Fatalf("Common of %v and nothing", list)
		}
	}
	// One of each holds all the others of the other one: more than MaxCells.
	a, b := []cell{{Level: 1}}, []cell{{Level: 1, X: 1}}
	for i := range int64(impl.MaxCells - 1) {
		a = append(a, cell{Level: 8, X: 128 + 2*(i%10), Y: 2 * (i / 10)})
		b = append(b, cell{Level: 8, X: 2 * (i % 10), Y: 2 * (i / 10)})
	}
	got := impl.Common(a, b)
	isFewest(t, "two of MaxCells", got, setOf(a).and(setOf(b)))
	if len(got) != 2*(impl.MaxCells-1) {
		t.Errorf("%d Cells", len(got))
	}
}

func TestWrongListsHaveTheirFixedAnswers(t *testing.T) {
	grid := []cell{{}}
	s := spot{X: 7, Y: 9}
	wrong := wrongLists()
	for _, list := range wrong {
		if got := impl.Joined(list); len(got) != 0 {
			t.Errorf("Joined(%v) = %v", list, got)
		}
		if impl.Reaches(list, s) || impl.Reaches(list, spot{}) {
			t.Errorf("Reaches(%v, ..)", list)
		}
		for _, other := range [][]cell{nil, grid, {{Level: 8, X: 7, Y: 9}}, list, wrong[0], wrong[len(wrong)-1]} {
			if impl.Covers(list, other) || impl.Covers(other, list) {
				t.Errorf("Covers of %v and %v", list, other)
			}
			if a, b := impl.Common(list, other), impl.Common(other, list); len(a) != 0 || len(b) != 0 {
				t.Errorf("Common of %v and %v: %v, %v", list, other, a, b)
			}
		}
	}
	for _, s := range wrongSpots() {
		for _, list := range append(edgeLists(), wrong[0], wrong[5]) {
			if impl.Reaches(list, s) {
				t.Errorf("Reaches(%v, %v)", list, s)
			}
		}
	}
}

func TestListsAtTheLimit(t *testing.T) {
	full := slices.Repeat([]cell{{Level: 1}}, impl.MaxCells)
	over := append(slices.Clone(full), cell{Level: 1})
	one := full[:1]
	if !slices.Equal(impl.Joined(full), one) || !impl.Reaches(full, spot{}) || !impl.Covers(full, full) || !slices.Equal(impl.Common(full, full), one) {
		t.Error("MaxCells Cells are refused")
	}
	if len(impl.Joined(over)) != 0 || impl.Reaches(over, spot{}) || impl.Covers(over, one) || impl.Covers(one, over) || len(impl.Common(over, one)) != 0 || len(impl.Common(one, over)) != 0 {
		t.Error("one more than MaxCells is taken")
	}
}

// withRoom is a list with spare room behind it, and all of it as it was.
func withRoom(list []cell) (given []cell, all []cell, was []cell) {
	all = slices.Concat(list, slices.Repeat([]cell{{Level: 8, X: 111, Y: 222}}, 2*impl.MaxCells+5))
	return all[:len(list)], all, slices.Clone(all)
}

func TestCoverArgumentsStay(t *testing.T) {
	lists := append(rightLists(80), wrongLists()[:40]...)
	for i, list := range lists {
		a, allA, wasA := withRoom(list)
		b, allB, wasB := withRoom(lists[(i*7+3)%len(lists)])
		impl.Joined(a)
		impl.Reaches(a, spot{X: 3, Y: 200})
		impl.Covers(a, b)
		impl.Common(a, b)
		impl.Common(a, a)
		if !slices.Equal(allA, wasA) || !slices.Equal(allB, wasB) {
			t.Fatalf("%v or %v was changed", list, b)
		}
	}
}

// spoil writes into all of an answer, its spare room as well.
func spoil(list []cell) {
	list = list[:cap(list)]
	for i := range list {
		list[i] = cell{Level: math.MinInt64, X: math.MaxInt64, Y: -1}
	}
}

func TestCoverAnswersAreNewMemory(t *testing.T) {
	for _, r := range greatRects(40) {
		first, second := impl.Cover(r), impl.Cover(r)
		spoil(first)
		isFewest(t, r, second, setOfRect(r))
		isFewest(t, r, impl.Cover(r), setOfRect(r))
	}
	lists := rightLists(80)
	for i, list := range lists {
		a, allA, wasA := withRoom(list)
		b, allB, wasB := withRoom(lists[(i*7+3)%len(lists)])
		for _, answer := range []func() []cell{
			func() []cell { return impl.Joined(a) },
			func() []cell { return impl.Common(a, b) },
			func() []cell { return impl.Common(b, a) },
			func() []cell { return impl.Common(a, []cell{{}}) },
		} {
			first, second := answer(), answer()
			want := slices.Clone(first)
			spoil(first)
			if !slices.Equal(allA, wasA) || !slices.Equal(allB, wasB) {
				t.Fatalf("what is written into an answer is in an argument: %v, %v", a, b)
			}
			if !slices.Equal(second, want) || !slices.Equal(answer(), want) {
				t.Fatalf("what is written into an answer of %v and %v is in others", a, b)
			}
		}
		kept, common := impl.Joined(a), impl.Common(a, b)
		wantKept, wantCommon := slices.Clone(kept), slices.Clone(common)
		spoil(a)
		spoil(b)
		if !slices.Equal(kept, wantKept) || !slices.Equal(common, wantCommon) {
			t.Fatalf("what is written into an argument is in an answer: %v", list)
		}
	}
}

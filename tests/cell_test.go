package tests

import (
	"fmt"
	"math"
	"slices"
	"strconv"
	"strings"
	"testing"

	"loop.example/g00301/impl"
)

type cell = impl.Cell

// bitsOf writes a number in its bits: the tests below read the document's
// words from these texts, not from the shifts that the program makes.
func bitsOf(n int64, count int64) string {
	if count == 0 {
		return ""
	}
	return fmt.Sprintf("%0*b", int(count), n)
}

// has asks by the document's words: are the first Level bits of 8 those of the
// Cell? It is only asked of right ones.
func has(c cell, s spot) bool {
	return strings.HasPrefix(bitsOf(s.X, 8), bitsOf(c.X, c.Level)) &&
		strings.HasPrefix(bitsOf(s.Y, 8), bitsOf(c.Y, c.Level))
}

// inTurn is the number in z order, by its bits in turn from the highest of Y on.
func inTurn(s spot) int64 {
	x, y := bitsOf(s.X, 8), bitsOf(s.Y, 8)
	var text strings.Builder
	for i := range 8 {
		text.WriteByte(y[i])
		text.WriteByte(x[i])
	}
	n, _ := strconv.ParseInt(text.String(), 2, 64)
	return n
}

func cellsOf(level int64) []cell {
	var list []cell
	for x := range int64(1) << level {
		for y := range int64(1) << level {
			list = append(list, cell{Level: level, X: x, Y: y})
		}
	}
	return list
}

func wholeGrid() []spot { return spotsOf(rect{Wide: 256, High: 256}) }

// cellSpots are the Spots of a Cell by its place alone, without the program.
func cellSpots(c cell) []spot {
	side := int64(256)
	for range c.Level {
		side /= 2
	}
	return spotsOf(rect{X: c.X * side, Y: c.Y * side, Wide: side, High: side})
}

// someCells are all Cells of the first Levels, and those of some Spots, at the
// grid's corners and beside its middle lines, of every Level.
func someCells() []cell {
	var list []cell
	for level := range int64(4) {
		list = append(list, cellsOf(level)...)
	}
	steps := []int64{0, 1, 127, 128, 254, 255}
	for level := int64(4); level <= 8; level++ {
		for _, x := range steps {
			for _, y := range steps {
				side := int64(256) >> level
				list = append(list, cell{Level: level, X: x / side, Y: y / side})
			}
		}
	}
	slices.SortFunc(list, func(a, b cell) int {
		return slices.Compare([]int64{a.Level, a.X, a.Y}, []int64{b.Level, b.X, b.Y})
	})
	return slices.Compact(list)
}

func wrongLevels() []int64 {
	return []int64{math.MinInt64, math.MinInt64 + 1, -64, -8, -1, 9, 10, 56, 62, 63, 64, 65, 1 << 32, math.MaxInt64 - 1, math.MaxInt64}
}

func wrongCells() []cell {
	var list []cell
	for _, level := range wrongLevels() {
		list = append(list, cell{Level: level}, cell{Level: level, X: 1, Y: 1}, cell{Level: level, X: level, Y: level})
	}
	for level := int64(0); level <= 8; level++ {
		past := int64(1) << level
		for _, n := range []int64{math.MinInt64, math.MinInt64 + 1, -past, -1, past, past + 1, 1 << 32, math.MaxInt64} {
			list = append(list, cell{Level: level, X: n}, cell{Level: level, Y: n}, cell{Level: level, X: n, Y: n})
			list = append(list, cell{Level: level, X: n, Y: past - 1}, cell{Level: level, X: past - 1, Y: n})
		}
	}
	return list
}

func TestCellOkAtEveryEdge(t *testing.T) {
	levels := append([]int64{0, 1, 2, 3, 4, 5, 6, 7, 8}, wrongLevels()...)
	for _, level := range levels {
		past := int64(0)
		if level >= 0 && level <= 8 {
			past = int64(math.Pow(2, float64(level)))
		}
		numbers := []int64{math.MinInt64, -256, -1, 0, 1, past / 2, past - 1, past, past + 1, 255, 256, 257, 1 << 32, math.MaxInt64}
		for _, x := range numbers {
			for _, y := range numbers {
				c := cell{Level: level, X: x, Y: y}
				want := x >= 0 && x < past && y >= 0 && y < past
				if got := impl.CellOk(c); got != want {
					t.Fatalf("CellOk(%v) = %v", c, got)
				}
			}
		}
	}
}

func TestEachSpotIsInOneCellOfEachLevel(t *testing.T) {
	for level := int64(0); level <= 8; level++ {
		times := map[spot]int{}
		for _, c := range cellsOf(level) {
			if !impl.CellOk(c) {
				t.Fatalf("CellOk(%v) is false", c)
			}
			r := impl.RectOf(c)
			if !impl.RectOk(r) {
				t.Fatalf("RectOf(%v) = %v, which is not right", c, r)
			}
			for _, s := range spotsOf(r) {
				times[s]++
				if got := impl.CellAt(s, level); got != c {
					t.Fatalf("CellAt(%v, %d) = %v, but RectOf(%v) has it", s, level, got, c)
				}
			}
		}
		for _, s := range wholeGrid() {
			if times[s] != 1 {
				t.Fatalf("%v is in %d Cells of Level %d", s, times[s], level)
			}
		}
	}
}

func TestRectOfAndCellAtByFirstBits(t *testing.T) {
	for level := int64(0); level <= 8; level++ {
		for _, s := range wholeGrid() {
			c := impl.CellAt(s, level)
			if c.Level != level || !impl.CellOk(c) || !has(c, s) {
				t.Fatalf("CellAt(%v, %d) = %v", s, level, c)
			}
		}
	}
	for _, c := range someCells() {
		r := impl.RectOf(c)
		for _, s := range wholeGrid() {
			if (s.X+s.Y)%7 != 0 && c.Level < 4 {
				continue
			}
			if isIn(r, s) != has(c, s) {
				t.Fatalf("RectOf(%v) = %v, and %v", c, r, s)
			}
		}
	}
}

func TestRectOfAndCellAtNamedEdges(t *testing.T) {
	cases := []struct {
		c cell
		r rect
	}{
		{cell{}, rect{Wide: 256, High: 256}},
		{cell{Level: 1, X: 1}, rect{X: 128, Wide: 128, High: 128}},
		{cell{Level: 1, Y: 1}, rect{Y: 128, Wide: 128, High: 128}},
		{cell{Level: 8}, rect{Wide: 1, High: 1}},
		{cell{Level: 8, X: 255, Y: 255}, rect{X: 255, Y: 255, Wide: 1, High: 1}},
		{cell{Level: 8, X: 255}, rect{X: 255, Wide: 1, High: 1}},
		{cell{Level: 7, X: 127, Y: 127}, rect{X: 254, Y: 254, Wide: 2, High: 2}},
		{cell{Level: 4, X: 15, Y: 3}, rect{X: 240, Y: 48, Wide: 16, High: 16}},
	}
	for _, c := range cases {
		if got := impl.RectOf(c.c); got != c.r {
			t.Errorf("RectOf(%v) = %v, not %v", c.c, got, c.r)
		}
		last := spot{X: c.r.X + c.r.Wide - 1, Y: c.r.Y + c.r.High - 1}
		for _, s := range []spot{{X: c.r.X, Y: c.r.Y}, last} {
			if got := impl.CellAt(s, c.c.Level); got != c.c {
				t.Errorf("CellAt(%v, %d) = %v, not %v", s, c.c.Level, got, c.c)
			}
		}
	}
}

func TestUpIsTheOneOfWhichItIsAQuarter(t *testing.T) {
	if got := impl.Up(cell{}); got != (cell{}) {
		t.Errorf("Up of Level 0 = %v", got)
	}
	for level := int64(1); level <= 8; level++ {
		for _, c := range cellsOf(level) {
			up := impl.Up(c)
			if up.Level != level-1 || !impl.CellOk(up) {
				t.Fatalf("Up(%v) = %v", c, up)
			}
			if !slices.Contains(impl.Quarters(up), c) {
				t.Fatalf("Up(%v) = %v, which has it not as a quarter", c, up)
			}
		}
	}
	if got := impl.Up(cell{Level: 8, X: 255, Y: 254}); got != (cell{Level: 7, X: 127, Y: 127}) {
		t.Errorf("Up of the last but one = %v", got)
	}
}

// firstOf is the least number in z order that a Cell has, by looking at each.
func firstOf(c cell) int64 {
	least := int64(math.MaxInt64)
	for _, s := range cellSpots(c) {
		least = min(least, inTurn(s))
	}
	return least
}

func TestACellIsItsFourQuarters(t *testing.T) {
	for level := int64(0); level < 8; level++ {
		for _, c := range cellsOf(level) {
			list := impl.Quarters(c)
			if len(list) != 4 {
				t.Fatalf("Quarters(%v) = %v", c, list)
			}
			times := map[spot]int{}
			for _, q := range list {
				if !impl.CellOk(q) || q.Level != level+1 || impl.Up(q) != c {
					t.Fatalf("Quarters(%v) = %v, Up of %v is %v", c, list, q, impl.Up(q))
				}
				for _, s := range spotsOf(impl.RectOf(q)) {
					times[s]++
				}
			}
			spots := cellSpots(c)
			for _, s := range spots {
				if times[s] != 1 {
					t.Fatalf("Quarters(%v) = %v have %v %d times", c, list, s, times[s])
				}
			}
			if len(times) != len(spots) {
				t.Fatalf("Quarters(%v) = %v have others, too", c, list)
			}
			for i := range 3 {
				if firstOf(list[i]) >= firstOf(list[i+1]) {
					t.Fatalf("Quarters(%v) = %v are not in order", c, list)
				}
			}
		}
	}
}

func TestQuartersNamedEdges(t *testing.T) {
	want := []cell{{Level: 1}, {Level: 1, X: 1}, {Level: 1, Y: 1}, {Level: 1, X: 1, Y: 1}}
	if got := impl.Quarters(cell{}); !slices.Equal(got, want) {
		t.Errorf("Quarters of the grid = %v", got)
	}
	want = []cell{{Level: 8, X: 254, Y: 254}, {Level: 8, X: 255, Y: 254}, {Level: 8, X: 254, Y: 255}, {Level: 8, X: 255, Y: 255}}
	if got := impl.Quarters(cell{Level: 7, X: 127, Y: 127}); !slices.Equal(got, want) {
		t.Errorf("Quarters of the last of Level 7 = %v", got)
	}
	for _, c := range cellsOf(8) {
		if got := impl.Quarters(c); len(got) != 0 {
			t.Fatalf("Quarters(%v) = %v", c, got)
		}
	}
}

func TestQuartersAreNewMemory(t *testing.T) {
	c := cell{Level: 3, X: 5, Y: 2}
	first, second := impl.Quarters(c), impl.Quarters(c)
	want := slices.Clone(first)
	for i := range first {
		first[i] = cell{Level: -1, X: -1, Y: -1}
	}
	_ = append(first[:0:cap(first)], cell{Level: 7}, cell{Level: 7}, cell{Level: 7}, cell{Level: 7})
	if !slices.Equal(second, want) || !slices.Equal(impl.Quarters(c), want) {
		t.Errorf("what is written into an answer is in others: %v, %v", second, impl.Quarters(c))
	}
}

func allAreIn(a, b cell) bool {
	for _, s := range cellSpots(a) {
		if !has(b, s) {
			return false
		}
	}
	return true
}

func TestInsideIsAllItsSpots(t *testing.T) {
	list := someCells()
	spots := make([]map[spot]struct{}, len(list))
	for i, c := range list {
		spots[i] = map[spot]struct{}{}
		for _, s := range cellSpots(c) {
			spots[i][s] = struct{}{}
		}
	}
	for i, a := range list {
		for j, b := range list {
			want := true
			for s := range spots[i] {
				if _, is := spots[j][s]; !is {
					want = false
					break
				}
			}
			if got := impl.Inside(a, b); got != want {
				t.Fatalf("Inside(%v, %v) = %v", a, b, got)
			}
		}
	}
}

func TestInsideOfEachCell(t *testing.T) {
	for level := int64(0); level <= 8; level++ {
		for _, c := range cellsOf(level) {
			if !impl.Inside(c, c) || !impl.Inside(c, cell{}) || impl.Inside(cell{}, c) != (level == 0) {
				t.Fatalf("%v, itself and the grid", c)
			}
			beside := cell{Level: level, X: c.X ^ 1, Y: c.Y}
			if level > 0 && (impl.Inside(c, beside) || impl.Inside(beside, c)) {
				t.Fatalf("%v and %v", c, beside)
			}
			up := impl.Up(c)
			if !impl.Inside(c, up) || !allAreIn(cell{Level: 8, X: c.X << (8 - level), Y: c.Y << (8 - level)}, up) {
				t.Fatalf("%v and %v above it", c, up)
			}
		}
	}
	if impl.Inside(cell{Level: 3, X: 1, Y: 1}, cell{Level: 2, X: 1, Y: 1}) || impl.Inside(cell{Level: 8}, cell{Level: 1, X: 1, Y: 1}) {
		t.Error("one with the same numbers of another Level")
	}
}

func TestOrderIsBitsInTurn(t *testing.T) {
	seen := make([]int, 65536)
	for _, s := range wholeGrid() {
		n := impl.Order(s)
		if n < 0 || n > 65535 || n != inTurn(s) {
			t.Fatalf("Order(%v) = %d, not %d", s, n, inTurn(s))
		}
		seen[n]++
	}
	for n, times := range seen {
		if times != 1 {
			t.Fatalf("%d Spots have the number %d", times, n)
		}
	}
}

func TestOrderGoesCellByCell(t *testing.T) {
	for level := int64(0); level <= 8; level++ {
		for _, c := range cellsOf(level) {
			least, greatest, count := int64(math.MaxInt64), int64(-1), int64(0)
			for _, s := range spotsOf(impl.RectOf(c)) {
				n := impl.Order(s)
				least, greatest, count = min(least, n), max(greatest, n), count+1
			}
			if count == 0 || greatest-least+1 != count {
				t.Fatalf("%v has %d Spots, from %d to %d", c, count, least, greatest)
			}
			if corner := impl.RectOf(c); impl.Order(spot{X: corner.X, Y: corner.Y}) != least {
				t.Fatalf("%v: its first Spot is not the least of it", c)
			}
		}
	}
}

func TestOrderNamedEdges(t *testing.T) {
	cases := []struct {
		s    spot
		want int64
	}{
		{spot{}, 0}, {spot{X: 1}, 1}, {spot{Y: 1}, 2}, {spot{X: 1, Y: 1}, 3}, {spot{X: 2}, 4},
		{spot{X: 255}, 21845}, {spot{Y: 255}, 43690}, {spot{X: 255, Y: 255}, 65535},
		{spot{X: 128}, 16384}, {spot{Y: 128}, 32768}, {spot{X: 254, Y: 255}, 65534},
	}
	for _, c := range cases {
		if got := impl.Order(c.s); got != c.want {
			t.Errorf("Order(%v) = %d, not %d", c.s, got, c.want)
		}
	}
}

func TestWrongCellsHaveTheirFixedAnswers(t *testing.T) {
	others := append([]cell{{}, {Level: 1, X: 1, Y: 1}, {Level: 8}, {Level: 8, X: 255, Y: 255}}, wrongCells()...)
	for _, c := range wrongCells() {
		if impl.CellOk(c) || impl.RectOf(c) != (rect{}) || impl.Up(c) != (cell{}) || len(impl.Quarters(c)) != 0 {
			t.Errorf("%v: CellOk %v, RectOf %v, Up %v, Quarters %v", c, impl.CellOk(c), impl.RectOf(c), impl.Up(c), impl.Quarters(c))
		}
		for _, o := range others {
			if impl.Inside(c, o) || impl.Inside(o, c) {
				t.Errorf("Inside of %v and %v: %v, %v", c, o, impl.Inside(c, o), impl.Inside(o, c))
			}
		}
	}
}

func TestWrongSpotsAndLevelsOfCells(t *testing.T) {
	levels := append([]int64{0, 1, 4, 7, 8}, wrongLevels()...)
	for _, s := range wrongSpots() {
		if got := impl.Order(s); got != -1 {
			t.Errorf("Order(%v) = %d", s, got)
		}
		for _, level := range levels {
			if got := impl.CellAt(s, level); got != (cell{}) {
				t.Errorf("CellAt(%v, %d) = %v", s, level, got)
			}
		}
	}
	for _, s := range []spot{{}, {X: 3, Y: 200}, {X: 255, Y: 255}} {
		for _, level := range wrongLevels() {
			if got := impl.CellAt(s, level); got != (cell{}) {
				t.Errorf("CellAt(%v, %d) = %v", s, level, got)
			}
		}
	}
}

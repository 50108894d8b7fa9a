package tests

import (
	"math"
	"testing"

	"loop.example/g00301/impl"
)

type rect = impl.Rect
type spot = impl.Spot

// isIn asks by the document's words alone, and only of right Rects, so that
// what the program answers is held against something that it did not make.
func isIn(r rect, s spot) bool {
	return r.X <= s.X && s.X <= r.X+r.Wide-1 && r.Y <= s.Y && s.Y <= r.Y+r.High-1
}

func spotsOf(r rect) []spot {
	var list []spot
	for x := r.X; x <= r.X+r.Wide-1; x++ {
		for y := r.Y; y <= r.Y+r.High-1; y++ {
			list = append(list, spot{X: x, Y: y})
		}
	}
	return list
}

// boxOf is the least Rect with all of them, by looking at each.
func boxOf(list []spot) rect {
	low, high := list[0], list[0]
	for _, s := range list {
		low.X, low.Y = min(low.X, s.X), min(low.Y, s.Y)
		high.X, high.Y = max(high.X, s.X), max(high.Y, s.Y)
	}
	return rect{X: low.X, Y: low.Y, Wide: high.X - low.X + 1, High: high.Y - low.Y + 1}
}

func square(a, b spot) int64 { return (a.X-b.X)*(a.X-b.X) + (a.Y-b.Y)*(a.Y-b.Y) }

// windows are four small pieces of the grid, one at each of its corners: small
// enough that all Rects in them, and all pairs of these, can be gone through.
func windows() []rect {
	return []rect{
		{X: 0, Y: 0, Wide: 4, High: 4},
		{X: 252, Y: 0, Wide: 4, High: 4},
		{X: 0, Y: 252, Wide: 4, High: 4},
		{X: 252, Y: 252, Wide: 4, High: 4},
	}
}

func rectsIn(window rect) []rect {
	var list []rect
	for _, s := range spotsOf(window) {
		for wide := int64(1); s.X+wide <= window.X+window.Wide; wide++ {
			for high := int64(1); s.Y+high <= window.Y+window.High; high++ {
				list = append(list, rect{X: s.X, Y: s.Y, Wide: wide, High: high})
			}
		}
	}
	return list
}

// greatRects are Rects of many sizes from all over the grid, by a fixed rule.
func greatRects(n int) []rect {
	h := uint32(1)
	next := func(below int64) int64 {
		h = h*1664525 + 1013904223
		return int64(h>>8) % below
	}
	list := []rect{{Wide: 256, High: 256}, {X: 255, Y: 255, Wide: 1, High: 1}, {Wide: 1, High: 256}, {Y: 255, Wide: 256, High: 1}}
	for len(list) < n {
		x, y := next(256), next(256)
		list = append(list, rect{X: x, Y: y, Wide: 1 + next(256-x), High: 1 + next(256-y)})
	}
	return list
}

func wrongRects() []rect {
	least, greatest := int64(math.MinInt64), int64(math.MaxInt64)
	return []rect{
		{},
		{X: 3, Y: 3, Wide: 0, High: 2}, {X: 3, Y: 3, Wide: 2, High: 0},
		{X: 3, Y: 3, Wide: -1, High: 2}, {X: 3, Y: 3, Wide: 2, High: -1},
		{X: 3, Y: 3, Wide: -1, High: -1},
		{X: -1, Y: 3, Wide: 2, High: 2}, {X: 3, Y: -1, Wide: 2, High: 2},
		{X: 256, Y: 3, Wide: 1, High: 1}, {X: 3, Y: 256, Wide: 1, High: 1},
		{X: 256, Y: 3, Wide: 0, High: 1}, {X: 3, Y: 256, Wide: 1, High: 0},
		{X: 255, Y: 3, Wide: 2, High: 1}, {X: 3, Y: 255, Wide: 1, High: 2},
		{Wide: 257, High: 1}, {Wide: 1, High: 257},
		{X: -1, Wide: 257, High: 1}, {Y: -1, Wide: 1, High: 257},
		{X: least, Y: 3, Wide: 1, High: 1}, {X: 3, Y: least, Wide: 1, High: 1},
		{X: greatest, Y: 3, Wide: 1, High: 1}, {X: 3, Y: greatest, Wide: 1, High: 1},
		{X: 3, Y: 3, Wide: least, High: 1}, {X: 3, Y: 3, Wide: 1, High: least},
		{X: 3, Y: 3, Wide: greatest, High: 1}, {X: 3, Y: 3, Wide: 1, High: greatest},
		{X: greatest, Y: 3, Wide: greatest, High: 1}, {X: 3, Y: greatest, Wide: 1, High: greatest},
		{X: least, Y: 3, Wide: least, High: 1}, {X: 3, Y: least, Wide: 1, High: least},
		{X: least, Y: least, Wide: least, High: least}, {X: greatest, Y: greatest, Wide: greatest, High: greatest},
	}
}

func wrongSpots() []spot {
	var list []spot
	for _, n := range []int64{-1, 256, 257, -256, 1 << 32, 1<<32 + 3, math.MinInt64, math.MinInt64 + 1, math.MaxInt64} {
		list = append(list, spot{X: n, Y: 3}, spot{X: 3, Y: n}, spot{X: n, Y: n})
	}
	return list
}

func TestRectOkAtEveryEdge(t *testing.T) {
	numbers := []int64{math.MinInt64, math.MinInt64 + 1, -(1 << 32), -256, -1, 0, 1, 2, 128, 254, 255, 256, 257, 1 << 32, 1 << 62, math.MaxInt64 - 1, math.MaxInt64}
	within := func(from, count int64) bool {
		return from >= 0 && from <= 255 && count >= 1 && count <= 256 && from+count <= 256
	}
	for _, x := range numbers {
		for _, y := range numbers {
			for _, wide := range numbers {
				for _, high := range numbers {
					r := rect{X: x, Y: y, Wide: wide, High: high}
					want := within(x, wide) && within(y, high)
					if got := impl.RectOk(r); got != want {
						t.Fatalf("RectOk(%v) = %v", r, got)
					}
					area := int64(0)
					if want {
						area = wide * high
					}
					if got := impl.Area(r); got != area {
						t.Fatalf("Area(%v) = %d, not %d", r, got, area)
					}
				}
			}
		}
	}
}

func TestRectOkNamedEdges(t *testing.T) {
	if impl.MaxSpot != 255 {
		t.Fatal("MaxSpot", impl.MaxSpot)
	}
	right := []rect{
		{Wide: 1, High: 1}, {Wide: 256, High: 256},
		{X: 255, Y: 255, Wide: 1, High: 1}, {X: 250, Wide: 6, High: 1}, {Y: 250, Wide: 1, High: 6},
	}
	for _, r := range right {
		if !impl.RectOk(r) {
			t.Errorf("RectOk(%v) is false", r)
		}
	}
	for _, r := range wrongRects() {
		if impl.RectOk(r) {
			t.Errorf("RectOk(%v) is true", r)
		}
	}
}

func TestAreaIsHowManySpots(t *testing.T) {
	for _, window := range windows() {
		for _, r := range rectsIn(window) {
			if got := impl.Area(r); got != int64(len(spotsOf(r))) {
				t.Fatalf("Area(%v) = %d", r, got)
			}
		}
	}
	for _, r := range greatRects(100) {
		if got := impl.Area(r); got != int64(len(spotsOf(r))) {
			t.Fatalf("Area(%v) = %d", r, got)
		}
	}
}

func TestHoldsIsEachOfItsSpots(t *testing.T) {
	whole := spotsOf(rect{Wide: 256, High: 256})
	for _, r := range greatRects(100) {
		for _, s := range whole {
			if got := impl.Holds(r, s); got != isIn(r, s) {
				t.Fatalf("Holds(%v, %v) = %v", r, s, got)
			}
		}
	}
}

func checkMeet(t *testing.T, a, b rect) {
	t.Helper()
	var both []spot
	for _, s := range spotsOf(a) {
		if isIn(b, s) {
			both = append(both, s)
		}
	}
	got, is := impl.Meet(a, b)
	if len(both) == 0 {
		if is || got != (rect{}) {
			t.Fatalf("Meet(%v, %v) = %v, %v, but nothing is in both", a, b, got, is)
		}
		return
	}
	if want := boxOf(both); !is || got != want {
		t.Fatalf("Meet(%v, %v) = %v, %v, not %v", a, b, got, is, want)
	}
	if int64(len(both)) != impl.Area(got) {
		t.Fatalf("Meet(%v, %v) = %v has not just what is in both", a, b, got)
	}
}

func TestMeetIsWhatIsInBoth(t *testing.T) {
	for _, window := range windows() {
		list := rectsIn(window)
		for _, a := range list {
			for _, b := range list {
				checkMeet(t, a, b)
			}
		}
	}
	list := greatRects(40)
	for _, a := range list {
		for _, b := range list {
			checkMeet(t, a, b)
		}
	}
}

func TestMeetNamedEdges(t *testing.T) {
	a := rect{X: 10, Y: 20, Wide: 3, High: 4}
	cases := []struct {
		b, want rect
		is      bool
	}{
		{a, a, true},
		{rect{X: 12, Y: 23, Wide: 5, High: 5}, rect{X: 12, Y: 23, Wide: 1, High: 1}, true},
		{rect{X: 8, Y: 18, Wide: 3, High: 3}, rect{X: 10, Y: 20, Wide: 1, High: 1}, true},
		{rect{X: 13, Y: 20, Wide: 3, High: 4}, rect{}, false},
		{rect{X: 7, Y: 20, Wide: 3, High: 4}, rect{}, false},
		{rect{X: 10, Y: 24, Wide: 3, High: 4}, rect{}, false},
		{rect{X: 10, Y: 16, Wide: 3, High: 4}, rect{}, false},
		{rect{X: 13, Y: 24, Wide: 1, High: 1}, rect{}, false},
		{rect{X: 11, Y: 100, Wide: 1, High: 1}, rect{}, false},
		{rect{X: 100, Y: 21, Wide: 1, High: 1}, rect{}, false},
		{rect{X: 11, Y: 21, Wide: 1, High: 1}, rect{X: 11, Y: 21, Wide: 1, High: 1}, true},
		{rect{Wide: 256, High: 256}, a, true},
		{rect{X: 11, Wide: 1, High: 256}, rect{X: 11, Y: 20, Wide: 1, High: 4}, true},
	}
	for _, c := range cases {
		if got, is := impl.Meet(a, c.b); got != c.want || is != c.is {
			t.Errorf("Meet(%v, %v) = %v, %v", a, c.b, got, is)
		}
		if got, is := impl.Meet(c.b, a); got != c.want || is != c.is {
			t.Errorf("Meet(%v, %v) = %v, %v", c.b, a, got, is)
		}
	}
}

func checkAround(t *testing.T, a, b rect) {
	t.Helper()
	got := impl.Around(a, b)
	if want := boxOf(append(spotsOf(a), spotsOf(b)...)); got != want {
		t.Fatalf("Around(%v, %v) = %v, not %v", a, b, got, want)
	}
	for _, r := range []rect{a, b} {
		if m, is := impl.Meet(got, r); !is || m != r {
			t.Fatalf("Around(%v, %v) = %v does not hold %v", a, b, got, r)
		}
	}
}

func TestAroundIsTheLeastWithBoth(t *testing.T) {
	for _, window := range windows() {
		list := rectsIn(window)
		for _, a := range list {
			for _, b := range list {
				checkAround(t, a, b)
			}
		}
	}
	list := greatRects(30)
	for _, a := range list {
		for _, b := range list {
			checkAround(t, a, b)
		}
	}
}

func TestAroundNamedEdges(t *testing.T) {
	a := rect{X: 10, Y: 20, Wide: 3, High: 4}
	cases := []struct{ b, want rect }{
		{a, a},
		{rect{X: 11, Y: 21, Wide: 1, High: 1}, a},
		{rect{X: 13, Y: 20, Wide: 3, High: 4}, rect{X: 10, Y: 20, Wide: 6, High: 4}},
		{rect{Wide: 1, High: 1}, rect{Wide: 13, High: 24}},
		{rect{X: 255, Y: 255, Wide: 1, High: 1}, rect{X: 10, Y: 20, Wide: 246, High: 236}},
		{rect{Wide: 256, High: 256}, rect{Wide: 256, High: 256}},
	}
	for _, c := range cases {
		if got := impl.Around(a, c.b); got != c.want {
			t.Errorf("Around(%v, %v) = %v", a, c.b, got)
		}
		if got := impl.Around(c.b, a); got != c.want {
			t.Errorf("Around(%v, %v) = %v", c.b, a, got)
		}
	}
	if got := impl.Around(rect{Wide: 1, High: 1}, rect{X: 255, Y: 255, Wide: 1, High: 1}); got != (rect{Wide: 256, High: 256}) {
		t.Errorf("from corner to corner: %v", got)
	}
}

func checkFar(t *testing.T, r rect, s spot) {
	t.Helper()
	want := int64(math.MaxInt64)
	for _, o := range spotsOf(r) {
		want = min(want, square(o, s))
	}
	got := impl.Far(r, s)
	if got != want {
		t.Fatalf("Far(%v, %v) = %d, not %d", r, s, got, want)
	}
	if (got == 0) != impl.Holds(r, s) {
		t.Fatalf("Far(%v, %v) = %d, Holds says %v", r, s, got, impl.Holds(r, s))
	}
}

func TestFarIsTheLeastSquare(t *testing.T) {
	corners := []spot{{}, {X: 255}, {Y: 255}, {X: 255, Y: 255}, {X: 100, Y: 150}}
	for _, window := range windows() {
		for _, r := range rectsIn(window) {
			for _, s := range append(spotsOf(window), corners...) {
				checkFar(t, r, s)
			}
		}
	}
	for _, r := range greatRects(40) {
		for x := int64(0); x <= 255; x += 51 {
			for y := int64(0); y <= 255; y += 51 {
				checkFar(t, r, spot{X: x, Y: y})
			}
		}
	}
}

func TestFarIsNoughtJustOfWhatIsHeld(t *testing.T) {
	whole := spotsOf(rect{Wide: 256, High: 256})
	for _, r := range greatRects(60) {
		for _, s := range whole {
			if far := impl.Far(r, s); (far == 0) != isIn(r, s) || far < 0 {
				t.Fatalf("Far(%v, %v) = %d", r, s, far)
			}
		}
	}
}

func TestFarNamedEdges(t *testing.T) {
	r := rect{X: 10, Y: 20, Wide: 3, High: 4}
	cases := []struct {
		s    spot
		want int64
	}{
		{spot{X: 10, Y: 20}, 0}, {spot{X: 12, Y: 23}, 0}, {spot{X: 11, Y: 21}, 0},
		{spot{X: 13, Y: 23}, 1}, {spot{X: 12, Y: 24}, 1}, {spot{X: 9, Y: 20}, 1}, {spot{X: 10, Y: 19}, 1},
		{spot{X: 13, Y: 24}, 2}, {spot{X: 9, Y: 19}, 2},
		{spot{}, 500}, {spot{X: 255, Y: 255}, 243*243 + 232*232},
	}
	for _, c := range cases {
		if got := impl.Far(r, c.s); got != c.want {
			t.Errorf("Far(%v, %v) = %d, not %d", r, c.s, got, c.want)
		}
	}
}

func TestApartIsTheSquare(t *testing.T) {
	steps := []int64{0, 1, 2, 3, 100, 254, 255}
	for _, x := range steps {
		for _, y := range steps {
			for _, u := range steps {
				for _, v := range steps {
					a, b := spot{X: x, Y: y}, spot{X: u, Y: v}
					if got := impl.Apart(a, b); got != square(a, b) || got != impl.Apart(b, a) {
						t.Fatalf("Apart(%v, %v) = %d", a, b, got)
					}
				}
			}
		}
	}
	if got := impl.Apart(spot{}, spot{X: 255, Y: 255}); got != 130050 {
		t.Fatal("from corner to corner:", got)
	}
}

func TestWrongRectsHaveTheirFixedAnswers(t *testing.T) {
	right := []rect{{X: 3, Y: 3, Wide: 1, High: 1}, {X: 2, Y: 2, Wide: 9, High: 9}, {Wide: 256, High: 256}}
	others := append(right, wrongRects()...)
	spots := append([]spot{{}, {X: 3, Y: 3}, {X: 255, Y: 255}}, wrongSpots()...)
	for _, r := range wrongRects() {
		if impl.RectOk(r) || impl.Area(r) != 0 {
			t.Errorf("%v: RectOk %v, Area %d", r, impl.RectOk(r), impl.Area(r))
		}
		for _, s := range spots {
			if impl.Holds(r, s) || impl.Far(r, s) != -1 {
				t.Errorf("%v and %v: Holds %v, Far %d", r, s, impl.Holds(r, s), impl.Far(r, s))
			}
		}
		for _, o := range others {
			if m, is := impl.Meet(r, o); is || m != (rect{}) {
				t.Errorf("Meet(%v, %v) = %v, %v", r, o, m, is)
			}
			if m, is := impl.Meet(o, r); is || m != (rect{}) {
				t.Errorf("Meet(%v, %v) = %v, %v", o, r, m, is)
			}
			if got := impl.Around(r, o); got != (rect{}) {
				t.Errorf("Around(%v, %v) = %v", r, o, got)
			}
			if got := impl.Around(o, r); got != (rect{}) {
				t.Errorf("Around(%v, %v) = %v", o, r, got)
			}
		}
	}
}

func TestWrongSpotsHaveTheirFixedAnswers(t *testing.T) {
	rects := []rect{{X: 3, Y: 3, Wide: 1, High: 1}, {Wide: 256, High: 256}, {X: 255, Y: 255, Wide: 1, High: 1}}
	others := append([]spot{{}, {X: 3, Y: 3}, {X: 255, Y: 255}}, wrongSpots()...)
	for _, s := range wrongSpots() {
		for _, r := range rects {
			if impl.Holds(r, s) || impl.Far(r, s) != -1 {
				t.Errorf("%v and %v: Holds %v, Far %d", r, s, impl.Holds(r, s), impl.Far(r, s))
			}
		}
		for _, o := range others {
			if impl.Apart(s, o) != -1 || impl.Apart(o, s) != -1 {
				t.Errorf("Apart of %v and %v: %d, %d", s, o, impl.Apart(s, o), impl.Apart(o, s))
			}
		}
	}
}

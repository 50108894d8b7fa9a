package impl

const MaxSpot = 255

type Spot struct {
	X int64
	Y int64
}

type Rect struct {
	X    int64
	Y    int64
	Wide int64
	High int64
}

func RectOk(r Rect) bool { return r.isRight() }

func Holds(r Rect, s Spot) bool {
	return every(r.isRight, s.isRight) && r.nearest(s) == s
}

func Meet(a Rect, b Rect) (Rect, bool) {
	if !every(a.isRight, b.isRight) {
		return Rect{}, false
	}
	_, x := ends(a.X, b.X)
	_, y := ends(a.Y, b.Y)
	lastX, _ := ends(a.lastX(), b.lastX())
	lastY, _ := ends(a.lastY(), b.lastY())
	both := spanned(Spot{X: x, Y: y}, Spot{X: lastX, Y: lastY})
	if !both.isRight() {
		return Rect{}, false
	}
	return both, true
}

func Around(a Rect, b Rect) Rect {
	if !every(a.isRight, b.isRight) {
		return Rect{}
	}
	x, lastX := ends(a.X, a.lastX(), b.X, b.lastX())
	y, lastY := ends(a.Y, a.lastY(), b.Y, b.lastY())
	return spanned(Spot{X: x, Y: y}, Spot{X: lastX, Y: lastY})
}

func Area(r Rect) int64 {
	if !r.isRight() {
		return 0
	}
	return r.Wide * r.High
}

func Far(r Rect, s Spot) int64 {
	if !every(r.isRight, s.isRight) {
		return -1
	}
	return Apart(r.nearest(s), s)
}

func Apart(a Spot, b Spot) int64 {
	if !every(a.isRight, b.isRight) {
		return -1
	}
	return (a.X-b.X)*(a.X-b.X) + (a.Y-b.Y)*(a.Y-b.Y)
}

func (s Spot) isRight() bool {
	return s.X >= 0 && s.X <= MaxSpot && s.Y >= 0 && s.Y <= MaxSpot
}

// The room that is left is worked out, not the last Spot: of a corner on the
// grid it can't wrap round, whatever Wide and High are.
func (r Rect) isRight() bool {
	corner := Spot{X: r.X, Y: r.Y}
	return corner.isRight() &&
		r.Wide >= 1 && r.Wide <= MaxSpot+1-r.X &&
		r.High >= 1 && r.High <= MaxSpot+1-r.Y
}

func (r Rect) lastX() int64 { return r.X + r.Wide - 1 }

func (r Rect) lastY() int64 { return r.Y + r.High - 1 }

// Across and up are drawn in apart from each other: the square of a distance
// is least where both of its parts are.
func (r Rect) nearest(s Spot) Spot {
	return Spot{
		X: drawnIn(s.X, r.X, r.lastX()),
		Y: drawnIn(s.Y, r.Y, r.lastY()),
	}
}

func drawnIn(n int64, first int64, last int64) int64 {
	_, n = ends(n, first)
	n, _ = ends(n, last)
	return n
}

// Where last lies ahead of first there is nothing between them, and the Rect
// is one that is not right: its Wide or its High is below 1.
func spanned(first Spot, last Spot) Rect {
	return Rect{
		X:    first.X,
		Y:    first.Y,
		Wide: last.X - first.X + 1,
		High: last.Y - first.Y + 1,
	}
}

// The first number stands by itself so that there is always one to answer.
func ends(first int64, more ...int64) (int64, int64) {
	least, greatest := first, first
	for _, n := range more {
		least = min(least, n)
		greatest = max(greatest, n)
	}
	return least, greatest
}

// Rects and Spots are asked alike: what comes in is a question that is bound
// to the one it asks.
func every(asked ...func() bool) bool {
	for _, isRight := range asked {
		if !isRight() {
			return false
		}
	}
	return true
}

package tests

import (
	"fmt"
	"math"
	"math/big"
	"slices"
	"strconv"
	"strings"
	"sync"
	"testing"

	"loop.example/g00301/impl"
)

type clause = impl.Clause
type paper = impl.Paper

const greatestTime = 100000

// clauseTextOf is the document's text of a right Clause.
func clauseTextOf(c clause) string {
	text := fmt.Sprintf("%d", c.Until)
	for _, list := range [][]cell{c.Read, c.Write} {
		text += fmt.Sprintf(" %d", len(list))
		for _, one := range list {
			text += fmt.Sprintf(" %d %d %d", one.Level, one.X, one.Y)
		}
	}
	return text
}

func paperTexts(tenant int64, list []clause) []string {
	texts := []string{fmt.Sprint(tenant)}
	for _, c := range list {
		texts = append(texts, clauseTextOf(c))
	}
	return texts
}

// paperOf is the Paper that these Clauses are when sealed by key, made without
// the program.
func paperOf(key, tenant int64, list ...clause) paper {
	return paper{Tenant: tenant, Clauses: list, Tag: chainOf(key, paperTexts(tenant, list))}
}

func alikeClauses(a, b clause) bool {
	return a.Until == b.Until && slices.Equal(a.Read, b.Read) && slices.Equal(a.Write, b.Write)
}

func alikePapers(a, b paper) bool {
	return a.Tenant == b.Tenant && a.Tag == b.Tag && slices.EqualFunc(a.Clauses, b.Clauses, alikeClauses)
}

func listOf(c clause, write bool) []cell {
	if write {
		return c.Write
	}
	return c.Read
}

func isInCell(c cell, s spot) bool {
	side := int64(256) >> c.Level
	return s.X/side == c.X && s.Y/side == c.Y
}

// isAllowed asks each Clause of a right Paper by the document's words; at what
// is no time nothing is allowed.
func isAllowed(p paper, s spot, write bool, now int64) bool {
	if now < 0 || now > greatestTime {
		return false
	}
	for _, c := range p.Clauses {
		reached := slices.ContainsFunc(listOf(c, write), func(one cell) bool { return isInCell(one, s) })
		if c.Until <= now || !reached {
			return false
		}
	}
	return true
}

// regionOf has the Spots that are in a Cell of each Clause.
func regionOf(p paper, write bool) *gridSet {
	set := setOf([]cell{{}})
	for _, c := range p.Clauses {
		set = set.and(setOf(listOf(c, write)))
	}
	return set
}

func firstEnd(p paper) int64 {
	end := int64(math.MaxInt64)
	for _, c := range p.Clauses {
		end = min(end, c.Until)
	}
	return end
}

func lastCell() cell { return cell{Level: 8, X: 255, Y: 255} }

func eightLast() []cell { return slices.Repeat([]cell{lastCell()}, 8) }

func eightApart() []cell {
	var list []cell
	for i := range int64(8) {
		list = append(list, cell{Level: 1 + i, X: 1, Y: i % 2})
	}
	return list
}

func wholeClause() clause {
	return clause{Read: []cell{{}}, Write: []cell{{}}, Until: greatestTime}
}

func fullestClause() clause {
	return clause{Read: eightLast(), Write: eightLast(), Until: greatestTime}
}

// edgeClauses are right ones at the edges that the document names.
func edgeClauses() []clause {
	grid := []cell{{}}
	return []clause{
		{}, {Read: []cell{}, Write: []cell{}}, {Until: 1}, {Until: greatestTime},
		{Read: grid}, {Write: grid, Until: greatestTime - 1}, {Read: grid, Write: grid, Until: 50}, wholeClause(),
		{Read: eightApart(), Until: greatestTime}, {Write: eightApart(), Until: greatestTime},
		{Read: eightLast(), Write: grid, Until: 10}, {Read: grid, Write: eightLast(), Until: 100},
		fullestClause(), {Read: eightApart(), Write: eightApart()}, {Read: eightApart()[:7], Write: eightApart()[1:], Until: 9},
		{Read: slices.Repeat(grid, 8), Write: slices.Repeat(grid, 8), Until: 99999},
		{Read: []cell{{Level: 8}}, Write: []cell{lastCell()}, Until: 12345},
		{Read: cellsOf(1), Write: fourQuarters(cell{Level: 7, X: 127, Y: 127}), Until: 77},
		{Read: []cell{{Level: 1, X: 1}, {Level: 1}, {Level: 1, X: 1}}, Write: slices.Concat(fourQuarters(cell{Level: 2, X: 1}), cellsOf(1)[:3]), Until: 1000},
	}
}

// somePlace is a Cell of any Level: that of a Spot which is near, so that there
// is one of it in most lists, or of any.
func somePlace(near spot, next func(below int64) int64) cell {
	level, s := next(9), spot{X: next(256), Y: next(256)}
	if next(3) > 0 {
		s = spot{X: near.X ^ next(4), Y: near.Y ^ next(4)}
	}
	side := int64(256) >> level
	return cell{Level: level, X: s.X / side, Y: s.Y / side}
}

func someClause(near spot, next func(below int64) int64) clause {
	c := clause{Until: 1 + next(greatestTime)}
	for range 1 + next(8) {
		c.Read = append(c.Read, somePlace(near, next))
	}
	for range 1 + next(8) {
		c.Write = append(c.Write, somePlace(near, next))
	}
	return c
}

// somePapers are Genuine by key 7, with 1 to 6 Clauses by a fixed rule.
func somePapers(n int, seed uint32) []paper {
	next := someRule(seed)
	var all []paper
	for i := range n {
		near := spot{X: next(256), Y: next(256)}
		var list []clause
		for range 1 + i%6 {
			list = append(list, someClause(near, next))
		}
		all = append(all, paperOf(7, 1+next(99), list...))
	}
	return all
}

func edgePapers() []paper {
	var all []paper
	for i, c := range edgeClauses() {
		all = append(all, paperOf(7, 1+int64(i)*98/int64(len(edgeClauses())-1), c))
		all = append(all, paperOf(7, 99, slices.Repeat([]clause{c}, 6)...))
		all = append(all, paperOf(7, 1, wholeClause(), c))
	}
	return all
}

func rightPapers(n int, seed uint32) []paper { return append(edgePapers(), somePapers(n, seed)...) }

// spotsBy are the corners of each Cell of a Paper, those that lie beside them,
// and the corners of the grid.
func spotsBy(p paper) []spot {
	list := gridCorners()
	for _, c := range p.Clauses {
		for _, one := range slices.Concat(c.Read, c.Write) {
			side := int64(256) >> one.Level
			for _, x := range []int64{one.X*side - 1, one.X * side, (one.X+1)*side - 1, (one.X + 1) * side} {
				for _, y := range []int64{one.Y*side - 1, one.Y * side, (one.Y+1)*side - 1, (one.Y + 1) * side} {
					list = append(list, spot{X: min(max(x, 0), 255), Y: min(max(y, 0), 255)})
				}
			}
		}
	}
	slices.SortFunc(list, func(a, b spot) int { return slices.Compare([]int64{a.X, a.Y}, []int64{b.X, b.Y}) })
	return slices.Compact(list)
}

// timesBy are those around the end of each Clause, and those that no clock has.
func timesBy(p paper) []int64 {
	list := []int64{math.MinInt64, -1, 0, 1, greatestTime - 1, greatestTime, greatestTime + 1, math.MaxInt64}
	for _, c := range p.Clauses {
		list = append(list, c.Until-1, c.Until, c.Until+1)
	}
	slices.Sort(list)
	return slices.Compact(list)
}

func wrongTimes() []int64 {
	return []int64{math.MinInt64, math.MinInt64 + 1, -greatestTime, -2, -1, greatestTime + 1, greatestTime + 2, 1 << 32, 1<<32 + 5, math.MaxInt64}
}

func wrongTenants() []int64 {
	return []int64{math.MinInt64, -99, -1, 0, 100, 101, 1 << 32, 1<<32 + 1, math.MaxInt64}
}

// wrongCellLists have too many Cells, or one that is not right, at any place.
func wrongCellLists() [][]cell {
	all := [][]cell{slices.Repeat([]cell{{}}, 9), append(eightApart(), cell{}), append(eightLast(), lastCell()), make([]cell, 100), cellsOf(3)}
	for i, c := range wrongCells() {
		all = append(all, []cell{c}, slices.Replace(eightApart(), i%8, i%8+1, c))
	}
	return all
}

func wrongClauses() []clause {
	var all []clause
	for _, until := range wrongTimes() {
		all = append(all, clause{Until: until}, clause{Read: []cell{{}}, Write: []cell{{}}, Until: until})
	}
	for _, list := range wrongCellLists() {
		all = append(all, clause{Read: list, Write: []cell{{}}, Until: 50}, clause{Read: []cell{{}}, Write: list, Until: 50})
	}
	return append(all, clause{Read: wrongCellLists()[0], Write: wrongCellLists()[0], Until: 50})
}

// someWrongClauses are of each kind one or two.
func someWrongClauses() []clause {
	nine, out := wrongCellLists()[1], []cell{{}, {Level: 8, X: 256}}
	grid := []cell{{}}
	return []clause{
		{Read: grid, Write: grid, Until: -1}, {Read: grid, Write: grid, Until: greatestTime + 1},
		{Read: nine, Write: grid, Until: 50}, {Read: grid, Write: nine, Until: 50},
		{Read: out, Write: grid, Until: 50}, {Read: grid, Write: out, Until: 50},
	}
}

// wrongPapers have their Tags by key 7 wherever a Tag can be right, so that
// nothing but what is wrong about them can refuse them.
func wrongPapers() []paper {
	all := []paper{{}, {Tenant: 3, Tag: chainOf(7, []string{"3"})}, {Tenant: 3, Clauses: []clause{}, Tag: 7}}
	for _, tenant := range wrongTenants() {
		all = append(all, paperOf(7, tenant, wholeClause()), paperOf(7, tenant, slices.Repeat([]clause{wholeClause()}, 6)...))
	}
	for _, count := range []int{7, 8, 9, 100} {
		all = append(all, paperOf(7, 3, slices.Repeat([]clause{wholeClause()}, count)...))
	}
	for _, c := range someWrongClauses() {
		for count := 1; count <= 6; count++ {
			for at := range count {
				list := slices.Repeat([]clause{wholeClause()}, count)
				list[at] = c
				emptied := slices.Replace(paperTexts(3, list), at+1, at+2, "")
				all = append(all, paperOf(7, 3, list...), paper{Tenant: 3, Clauses: list, Tag: chainOf(7, emptied)})
			}
		}
	}
	for _, c := range wrongClauses() {
		all = append(all, paperOf(7, 3, c))
	}
	for _, tag := range wrongKeys() {
		all = append(all, paper{Tenant: 3, Clauses: []clause{wholeClause()}, Tag: tag})
	}
	return all
}

func checkMinted(t *testing.T, key, tenant int64, c clause) paper {
	t.Helper()
	got, is := impl.Minted(key, tenant, c)
	if want := paperOf(key, tenant, c); !is || !alikePapers(got, want) {
		t.Fatalf("Minted(%d, %d, %v) = %v, %v, not %v", key, tenant, c, got, is, want)
	}
	return got
}

func checkNarrowed(t *testing.T, p paper, c clause) paper {
	t.Helper()
	got, is := impl.Narrowed(p, c)
	want := paper{Tenant: p.Tenant, Clauses: append(slices.Clone(p.Clauses), c), Tag: sealOf(p.Tag, clauseTextOf(c))}
	if !is || !alikePapers(got, want) {
		t.Fatalf("Narrowed(%v, %v) = %v, %v, not %v", p, c, got, is, want)
	}
	return got
}

func checkGenuine(t *testing.T, key int64, p paper, want bool) {
	t.Helper()
	if got := impl.Genuine(key, p); got != want {
		t.Fatalf("Genuine(%d, %v) = %v", key, p, got)
	}
}

func checkRefused(t *testing.T, what string, got paper, is bool) {
	t.Helper()
	if is || !alikePapers(got, paper{}) {
		t.Fatalf("%s: %v, %v", what, got, is)
	}
}

func TestPaperLimits(t *testing.T) {
	if impl.MaxTime != greatestTime {
		t.Fatal(impl.MaxTime)
	}
}

// clauseFrom reads a text back: what the text does not tell, it has not.
func clauseFrom(text string) clause {
	var numbers []int64
	for _, word := range strings.Split(text, " ") {
		n, _ := strconv.ParseInt(word, 10, 64)
		numbers = append(numbers, n)
	}
	cellsFrom := func(rest []int64) ([]cell, []int64) {
		var list []cell
		for i := range int(rest[0]) {
			list = append(list, cell{Level: rest[1+3*i], X: rest[2+3*i], Y: rest[3+3*i]})
		}
		return list, rest[1+3*len(list):]
	}
	read, rest := cellsFrom(numbers[1:])
	write, _ := cellsFrom(rest)
	return clause{Read: read, Write: write, Until: numbers[0]}
}

func checkClauseText(t *testing.T, c clause) {
	t.Helper()
	got := impl.ClauseText(c)
	if want := clauseTextOf(c); got != want {
		t.Fatalf("ClauseText(%v) = %q, not %q", c, got, want)
	}
	if back := clauseFrom(got); !alikeClauses(back, c) {
		t.Fatalf("ClauseText(%v) = %q tells %v", c, got, back)
	}
	if len(got) > 170 {
		t.Fatalf("ClauseText(%v) has %d bytes", c, len(got))
	}
}

func TestClauseTextTellsAll(t *testing.T) {
	for _, c := range edgeClauses() {
		checkClauseText(t, c)
	}
	for _, p := range somePapers(300, 100) {
		for _, c := range p.Clauses {
			checkClauseText(t, c)
		}
	}
	for _, c := range someCells() {
		checkClauseText(t, clause{Read: []cell{c}, Until: 3})
		checkClauseText(t, clause{Write: []cell{c, c}, Until: 4})
	}
	for _, until := range []int64{0, 1, 9, 10, 11, 99, 100, 999, 1000, 9999, 10000, 65536, 99999, greatestTime} {
		checkClauseText(t, clause{Until: until})
	}
}

func TestClauseTextNamedEdges(t *testing.T) {
	eight := strings.Repeat(" 8 255 255", 8)
	for _, c := range []struct {
		c    clause
		want string
	}{
		{clause{}, "0 0 0"},
		{clause{Read: []cell{}, Write: []cell{}, Until: greatestTime}, "100000 0 0"},
		{clause{Read: []cell{{}}}, "0 1 0 0 0 0"},
		{clause{Write: []cell{{}}}, "0 0 1 0 0 0"},
		{clause{Read: []cell{{}}, Write: []cell{{Level: 1}}, Until: 50}, "50 1 0 0 0 1 1 0 0"},
		{clause{Read: []cell{{Level: 3, X: 7, Y: 5}, {Level: 1, Y: 1}}, Until: 20}, "20 2 3 7 5 1 0 1 0"},
		{clause{Write: []cell{{Level: 8, X: 10, Y: 100}, {Level: 8, X: 10, Y: 100}}, Until: 7}, "7 0 2 8 10 100 8 10 100"},
		{clause{Read: eightLast(), Until: 1}, "1 8" + eight + " 0"},
		{clause{Write: eightLast(), Until: 1}, "1 0 8" + eight},
		{fullestClause(), "100000 8" + eight + " 8" + eight},
	} {
		if got := impl.ClauseText(c.c); got != c.want {
			t.Errorf("ClauseText(%v) = %q, not %q", c.c, got, c.want)
		}
	}
}

func TestWrongClausesHaveNoText(t *testing.T) {
	for _, c := range slices.Concat(wrongClauses(), someWrongClauses()) {
		if got := impl.ClauseText(c); got != "" {
			t.Fatalf("ClauseText(%v) = %q", c, got)
		}
	}
}

func TestMintedIsSealedByKey(t *testing.T) {
	for _, key := range rightKeys() {
		for _, tenant := range []int64{1, 2, 9, 10, 98, 99} {
			for _, c := range edgeClauses() {
				checkGenuine(t, key, checkMinted(t, key, tenant, c), true)
			}
		}
	}
	for _, p := range somePapers(300, 101) {
		checkGenuine(t, 7, checkMinted(t, 7, p.Tenant, p.Clauses[0]), true)
	}
}

func TestPaperNamedEdges(t *testing.T) {
	fifty := clause{Read: []cell{{}}, Write: []cell{{Level: 1}}, Until: 50}
	twenty := clause{Read: []cell{{Level: 1}, {Level: 1, X: 1}}, Write: []cell{{Level: 2, X: 1}}, Until: 20}
	for _, c := range []struct {
		key, tenant int64
		list        []clause
		tag         int64
	}{
		{7, 3, []clause{fifty}, 579250937},
		{7, 3, []clause{fifty, twenty}, 2105374471},
		{0, 1, []clause{{}}, 1030986154},
		{greatestSeal, 99, []clause{wholeClause()}, 945952510},
		{greatestSeal, 99, []clause{fullestClause()}, 1856459732},
		{0, 1, slices.Repeat([]clause{fullestClause()}, 6), 231562862},
		{7, 99, make([]clause, 6), 2011995194},
	} {
		p, is := impl.Minted(c.key, c.tenant, c.list[0])
		for _, more := range c.list[1:] {
			if p, is = impl.Narrowed(p, more); !is {
				t.Fatalf("%v is refused by %v", more, p)
			}
		}
		if want := (paper{Tenant: c.tenant, Clauses: c.list, Tag: c.tag}); !is || !alikePapers(p, want) {
			t.Errorf("%v, %v, not %v", p, is, want)
		}
		checkGenuine(t, c.key, p, true)
	}
}

// Step by step to 6 Clauses; a seventh there is not.
func TestNarrowedIsGenuine(t *testing.T) {
	for _, key := range rightKeys() {
		for i, p := range rightPapers(60, 102) {
			own := checkMinted(t, key, p.Tenant, p.Clauses[0])
			for _, c := range p.Clauses[1:] {
				own = checkNarrowed(t, own, c)
				checkGenuine(t, key, own, true)
			}
			for len(own.Clauses) < 6 {
				own = checkNarrowed(t, own, edgeClauses()[(i+len(own.Clauses))%len(edgeClauses())])
				checkGenuine(t, key, own, true)
			}
			got, is := impl.Narrowed(own, wholeClause())
			checkRefused(t, fmt.Sprintf("a seventh Clause of %v", own), got, is)
		}
	}
}

// Who has a Paper needs no key to narrow it; and one that is not Genuine is not
// made so.
func TestNarrowedOfWhatIsNotGenuine(t *testing.T) {
	for _, p := range rightPapers(60, 103) {
		if len(p.Clauses) == 6 {
			continue
		}
		for _, tag := range []int64{0, greatestSeal, 7, p.Tag ^ 1, p.Tag / 2} {
			other := paper{Tenant: p.Tenant, Clauses: p.Clauses, Tag: tag}
			checkGenuine(t, 7, other, false)
			checkGenuine(t, 7, checkNarrowed(t, other, wholeClause()), false)
			checkGenuine(t, 7, checkNarrowed(t, other, p.Clauses[0]), false)
		}
	}
}

func TestGenuineByOneKeyAndOneTagAlone(t *testing.T) {
	for _, p := range rightPapers(60, 104) {
		for _, key := range slices.Concat(rightKeys(), wrongKeys(), []int64{6, 8, p.Tag}) {
			checkGenuine(t, key, p, key == 7)
		}
		for _, tag := range slices.Concat(rightKeys(), wrongKeys(), []int64{p.Tag - 1, p.Tag, p.Tag + 1, p.Tag + greatestSeal + 1, -p.Tag, p.Tag + 1<<32}) {
			checkGenuine(t, 7, paper{Tenant: p.Tenant, Clauses: p.Clauses, Tag: tag}, tag == p.Tag)
		}
	}
}

// keyOf is the key by which the Chain of these texts is tag: byte by byte it is
// gone back.
func keyOf(tag int64, list []string) int64 {
	modulus := big.NewInt(greatestSeal + 1)
	over := new(big.Int).ModInverse(big.NewInt(1000003), modulus)
	h := big.NewInt(tag)
	for _, text := range slices.Backward(list) {
		for _, b := range slices.Backward([]byte(text + "\x00\x00\x00\x00\x00\x00\x00")) {
			h.Sub(h, big.NewInt(int64(b)+1))
			h.Mul(h, over)
			h.Mod(h, modulus)
		}
	}
	return h.Int64()
}

func TestGenuineWithTheLeastAndTheGreatestTag(t *testing.T) {
	for _, tag := range []int64{0, 1, greatestSeal - 1, greatestSeal} {
		for _, p := range rightPapers(30, 105) {
			key := keyOf(tag, paperTexts(p.Tenant, p.Clauses))
			own := paper{Tenant: p.Tenant, Clauses: p.Clauses, Tag: tag}
			checkGenuine(t, key, own, true)
			checkGenuine(t, (key+1)%greatestSeal, own, false)
			if len(p.Clauses) < 6 {
				checkGenuine(t, key, checkNarrowed(t, own, wholeClause()), true)
			}
			if got := checkMinted(t, keyOf(tag, paperTexts(p.Tenant, p.Clauses[:1])), p.Tenant, p.Clauses[0]); got.Tag != tag {
				t.Fatalf("the Tag of %v is not %d", got, tag)
			}
		}
	}
}

// otherClauses are those that a Clause becomes by one change.
func otherClauses(c clause) []clause {
	all := []clause{{Read: c.Write, Write: c.Read, Until: c.Until}, {Read: c.Read, Write: c.Write, Until: c.Until ^ 1}}
	if len(c.Read) < 8 {
		all = append(all, clause{Read: append(slices.Clone(c.Read), cell{}), Write: c.Write, Until: c.Until})
	}
	if len(c.Write) < 8 {
		all = append(all, clause{Read: c.Read, Write: append(slices.Clone(c.Write), cell{}), Until: c.Until})
	}
	for i, one := range c.Read {
		all = append(all, clause{Read: slices.Delete(slices.Clone(c.Read), i, i+1), Write: c.Write, Until: c.Until})
		up := cell{Level: max(one.Level-1, 0), X: one.X / 2, Y: one.Y / 2}
		all = append(all, clause{Read: slices.Replace(slices.Clone(c.Read), i, i+1, up), Write: c.Write, Until: c.Until})
	}
	for i, one := range c.Write {
		all = append(all, clause{Read: c.Read, Write: slices.Delete(slices.Clone(c.Write), i, i+1), Until: c.Until})
		up := cell{Level: max(one.Level-1, 0), X: one.X / 2, Y: one.Y / 2}
		all = append(all, clause{Read: c.Read, Write: slices.Replace(slices.Clone(c.Write), i, i+1, up), Until: c.Until})
	}
	return slices.DeleteFunc(all, func(other clause) bool { return alikeClauses(other, c) })
}

// otherPapers have another Tenant, a Clause more, less or changed, or two that
// have changed places, and the Tag of p. (None of these Seals Clash.)
func otherPapers(p paper) []paper {
	var all []paper
	for _, tenant := range []int64{1, p.Tenant%99 + 1, 99} {
		if tenant != p.Tenant {
			all = append(all, paper{Tenant: tenant, Clauses: p.Clauses, Tag: p.Tag})
		}
	}
	lists := [][]clause{append([]clause{wholeClause()}, p.Clauses...), append(slices.Clone(p.Clauses), wholeClause())}
	for i, c := range p.Clauses {
		lists = append(lists, slices.Delete(slices.Clone(p.Clauses), i, i+1))
		for _, other := range otherClauses(c) {
			lists = append(lists, slices.Replace(slices.Clone(p.Clauses), i, i+1, other))
		}
		if i > 0 && !alikeClauses(p.Clauses[i-1], c) {
			lists = append(lists, slices.Replace(slices.Clone(p.Clauses), i-1, i+1, c, p.Clauses[i-1]))
		}
	}
	for _, list := range lists {
		all = append(all, paper{Tenant: p.Tenant, Clauses: list, Tag: p.Tag})
	}
	return all
}

// With its Tag a Paper that has anything but what was sealed is not Genuine.
func TestGenuineIsOfAllOfIt(t *testing.T) {
	for _, p := range rightPapers(60, 106) {
		checkGenuine(t, 7, p, true)
		for _, other := range otherPapers(p) {
			checkGenuine(t, 7, other, false)
		}
	}
}

func checkAllows(t *testing.T, p paper, s spot, write bool, now int64) {
	t.Helper()
	if got, want := impl.Allows(p, s, write, now), isAllowed(p, s, write, now); got != want {
		t.Fatalf("Allows(%v, %v, %v, %d) = %v", p, s, write, now, got)
	}
}

func TestAllowsWhatEachClauseAllows(t *testing.T) {
	for i, p := range rightPapers(120, 107) {
		for j, s := range spotsBy(p) {
			checkAllows(t, p, s, (i+j)%2 == 0, firstEnd(p)-1)
			checkAllows(t, p, s, (i+j)%2 == 1, firstEnd(p)-1)
			checkAllows(t, p, s, (i+j)%2 == 1, firstEnd(p))
		}
	}
}

func TestAllowsAtAllTimes(t *testing.T) {
	for _, p := range rightPapers(120, 108) {
		list := spotsBy(p)
		for _, s := range []spot{list[0], list[len(list)/3], list[len(list)/2], list[len(list)-1]} {
			for _, now := range timesBy(p) {
				checkAllows(t, p, s, true, now)
				checkAllows(t, p, s, false, now)
			}
		}
	}
}

// A Paper allows, whoever sealed it, and with whatever right Tag.
func TestAllowsAsksNoSeal(t *testing.T) {
	for _, tag := range []int64{0, 1, greatestSeal} {
		p := paper{Tenant: 5, Clauses: []clause{wholeClause()}, Tag: tag}
		if !impl.Allows(p, spot{X: 3}, true, 5) || len(impl.Region(p, true)) != 1 {
			t.Fatalf("%v allows nothing", p)
		}
	}
}

func TestAllowsNamedEdges(t *testing.T) {
	sealed := func(list ...clause) paper { return paperOf(7, 3, list...) }
	grid, corners := []cell{{}}, []cell{{Level: 8}, lastCell()}
	late := wholeClause()
	for _, c := range []struct {
		p     paper
		s     spot
		write bool
		now   int64
		want  bool
	}{
		{sealed(late), spot{}, true, greatestTime - 1, true},
		{sealed(late), spot{}, false, greatestTime - 1, true},
		{sealed(late), spot{}, false, greatestTime, false},
		{sealed(late), spot{X: 255, Y: 255}, false, 0, true},
		{sealed(clause{Read: grid, Write: grid}), spot{}, false, 0, false},
		{sealed(clause{Read: grid, Write: grid, Until: 1}), spot{}, false, 0, true},
		{sealed(clause{Read: grid, Write: grid, Until: 1}), spot{}, false, 1, false},
		{sealed(clause{Read: grid, Until: 50}), spot{}, false, 0, true},
		{sealed(clause{Read: grid, Until: 50}), spot{}, true, 0, false},
		{sealed(clause{Write: grid, Until: 50}), spot{}, false, 0, false},
		{sealed(clause{Write: grid, Until: 50}), spot{}, true, 0, true},
		{sealed(clause{Until: 50}), spot{}, true, 0, false},
		{sealed(clause{Write: corners, Until: 50}), spot{}, true, 0, true},
		{sealed(clause{Write: corners, Until: 50}), spot{X: 255, Y: 255}, true, 0, true},
		{sealed(clause{Write: corners, Until: 50}), spot{X: 255, Y: 254}, true, 0, false},
		{sealed(clause{Write: eightLast(), Until: 50}), spot{X: 255, Y: 255}, true, 49, true},
		{sealed(late, late, late, late, late, late), spot{X: 9, Y: 9}, true, 0, true},
		{sealed(late, late, late, late, late, clause{Read: grid, Write: corners, Until: 9}), spot{X: 9, Y: 9}, false, 8, true},
		{sealed(late, late, late, late, late, clause{Read: grid, Write: corners, Until: 9}), spot{X: 9, Y: 9}, false, 9, false},
		{sealed(late, late, late, late, late, clause{Read: grid, Write: corners, Until: 9}), spot{X: 9, Y: 9}, true, 8, false},
		{sealed(clause{Read: corners, Write: grid, Until: 9}, late, late, late, late, late), spot{X: 9, Y: 9}, false, 8, false},
		// Each Clause allows it by itself; it need not be by one Cell.
		{sealed(clause{Read: cellsOf(1), Until: 9}, clause{Read: cellsOf(1)[3:], Until: 9}), spot{X: 128, Y: 128}, false, 8, true},
		{sealed(clause{Read: cellsOf(1)[:1], Until: 9}, clause{Read: cellsOf(1)[3:], Until: 9}), spot{X: 128, Y: 128}, false, 8, false},
		// What is below 0 or above the greatest time is no time.
		{sealed(clause{Read: grid}), spot{}, false, -1, false},
		{sealed(clause{Read: grid, Until: 1}), spot{}, false, -1, false},
		{sealed(late), spot{}, false, -1, false},
		{sealed(late), spot{}, true, -1, false},
		{sealed(late), spot{}, false, greatestTime + 1, false},
		{sealed(late), spot{}, false, math.MinInt64, false},
		{sealed(late), spot{}, false, math.MaxInt64, false},
	} {
		if got := impl.Allows(c.p, c.s, c.write, c.now); got != c.want {
			t.Errorf("Allows(%v, %v, %v, %d) = %v", c.p, c.s, c.write, c.now, got)
		}
	}
}

// Whatever it allows at a time, at what is no time it allows nothing.
func TestAllowsAtNoTime(t *testing.T) {
	for _, p := range append(rightPapers(60, 122), paperOf(7, 3, wholeClause())) {
		for _, s := range spotsBy(p) {
			for _, now := range wrongTimes() {
				if impl.Allows(p, s, false, now) || impl.Allows(p, s, true, now) {
					t.Fatalf("%v allows %v at %d, which is no time", p, s, now)
				}
			}
		}
	}
}

// What is Narrowed allows what the Paper did and the new Clause does: no more.
func TestNarrowedAllowsNoMore(t *testing.T) {
	next := someRule(109)
	for i, p := range rightPapers(150, 110) {
		if len(p.Clauses) == 6 {
			continue
		}
		c := edgeClauses()[i%len(edgeClauses())]
		if i%4 > 0 {
			c = someClause(spotsBy(p)[len(spotsBy(p))/2], next)
		}
		narrowed := checkNarrowed(t, p, c)
		alone := checkMinted(t, 7, p.Tenant, c)
		for j, s := range spotsBy(narrowed) {
			for _, now := range []int64{firstEnd(narrowed) - 1, timesBy(narrowed)[j%len(timesBy(narrowed))]} {
				for _, write := range []bool{false, true} {
					had, has := impl.Allows(p, s, write, now), impl.Allows(narrowed, s, write, now)
					if has && !had || has != (had && impl.Allows(alone, s, write, now)) {
						t.Fatalf("%v allows %v at %v, narrowed by %v %v", p, had, s, c, has)
					}
				}
			}
		}
	}
}

func checkRegion(t *testing.T, p paper, write bool) []cell {
	t.Helper()
	got := impl.Region(p, write)
	isFewest(t, p, got, regionOf(p, write))
	return got
}

func TestRegionIsCommonToAll(t *testing.T) {
	for _, p := range rightPapers(120, 111) {
		for _, write := range []bool{false, true} {
			checkRegion(t, p, write)
			turned := paper{Tenant: p.Tenant, Clauses: slices.Clone(p.Clauses), Tag: p.Tag}
			slices.Reverse(turned.Clauses)
			if a, b := impl.Region(p, write), impl.Region(turned, write); !slices.Equal(a, b) {
				t.Fatalf("the Region of %v is %v, the other way round %v", p, a, b)
			}
		}
	}
}

// Of a Paper that lasts: Spot by Spot for the first ones, by the edges of their
// Cells for all others. (One whose Until is 0 lasts at no time.)
func TestWhatItAllowsIsItsRegion(t *testing.T) {
	for i, p := range rightPapers(150, 112) {
		list := spotsBy(p)
		if i%24 == 7 {
			list = wholeGrid()
		}
		now := firstEnd(p) - 1
		for _, write := range []bool{false, true} {
			region := setOf(impl.Region(p, write))
			for _, s := range list {
				if got := impl.Allows(p, s, write, now); got != (region[s.X][s.Y] > 0 && now >= 0) {
					t.Fatalf("Allows(%v, %v, %v, %d) = %v, but its Region is %v", p, s, write, now, got, impl.Region(p, write))
				}
				if impl.Allows(p, s, write, now+1) {
					t.Fatalf("%v allows %v when it is over, at %d", p, s, now+1)
				}
			}
		}
	}
}

func TestRegionNarrowed(t *testing.T) {
	next := someRule(113)
	for _, p := range rightPapers(150, 114) {
		if len(p.Clauses) == 6 {
			continue
		}
		c := someClause(spotsBy(p)[len(spotsBy(p))/2], next)
		narrowed := checkNarrowed(t, p, c)
		for _, write := range []bool{false, true} {
			had, has := impl.Region(p, write), impl.Region(narrowed, write)
			if !impl.Covers(had, has) || !slices.Equal(has, impl.Common(had, listOf(c, write))) {
				t.Fatalf("the Region of %v is %v, narrowed by %v %v", p, had, c, has)
			}
		}
	}
}

// many has count Clauses: each has a whole Cell for every other one, and small
// Cells where the others have a whole one.
func many(count int64) []clause {
	var list []clause
	for i := range count {
		c := clause{Until: 5}
		for j := range count {
			if j != i {
				c.Read = append(c.Read, cell{Level: 3, X: j})
			}
		}
		for n := int64(0); len(c.Read) < 8; n++ {
			c.Read = append(c.Read, cell{Level: 8, X: 32*i + 2*n})
		}
		list = append(list, c)
	}
	return list
}

func TestRegionNamedEdges(t *testing.T) {
	grid := []cell{{}}
	for _, c := range []struct {
		list []clause
		want []cell
	}{
		{[]clause{{}}, nil},
		{[]clause{{Read: grid}}, grid},
		{[]clause{{Read: []cell{}, Write: grid, Until: 5}}, nil},
		{[]clause{{Read: cellsOf(1), Until: 5}}, grid},
		{[]clause{{Read: slices.Repeat(grid, 8)}}, grid},
		{[]clause{{Read: eightLast()}}, []cell{lastCell()}},
		{[]clause{{Read: []cell{{Level: 1, Y: 1}, {Level: 8}, {Level: 1, X: 1}}}}, []cell{{Level: 8}, {Level: 1, X: 1}, {Level: 1, Y: 1}}},
		{[]clause{{Read: grid}, {}}, nil},
		{[]clause{{}, {Read: grid}}, nil},
		{[]clause{{Read: grid}, {Read: grid}, {Read: grid}, {Read: grid}, {Read: grid}, {Read: []cell{lastCell()}}}, []cell{lastCell()}},
		{[]clause{{Read: cellsOf(1)[:2]}, {Read: cellsOf(1)[2:]}}, nil},
		{[]clause{{Read: cellsOf(1)[:3]}, {Read: cellsOf(1)[1:]}}, []cell{{Level: 1, X: 1}, {Level: 1, Y: 1}}},
		{[]clause{{Read: []cell{{Level: 7}, {Level: 7, X: 1}}}, {Read: []cell{{Level: 7}, {Level: 7, Y: 1}}}}, []cell{{Level: 7}}},
	} {
		p := paperOf(7, 3, c.list...)
		if got := impl.Region(p, false); !slices.Equal(got, c.want) {
			t.Errorf("Region(%v, false) = %v, not %v", p, got, c.want)
		}
		for i, c := range p.Clauses {
			p.Clauses[i].Read, p.Clauses[i].Write = c.Write, c.Read
		}
		if got := impl.Region(p, true); !slices.Equal(got, c.want) {
			t.Errorf("Region(%v, true) = %v, not %v", p, got, c.want)
		}
	}
	for _, c := range []struct {
		count int64
		want  int
	}{{2, 14}, {3, 18}, {4, 20}, {5, 20}, {6, 18}} {
		if got := checkRegion(t, paperOf(7, 3, many(c.count)...), false); len(got) != c.want {
			t.Errorf("of %d Clauses %d Cells: %v", c.count, len(got), got)
		}
	}
}

func TestWrongPapers(t *testing.T) {
	for _, p := range wrongPapers() {
		got, is := impl.Narrowed(p, wholeClause())
		checkRefused(t, fmt.Sprintf("Narrowed(%v, ..)", p), got, is)
		for _, key := range []int64{7, 0, -1} {
			checkGenuine(t, key, p, false)
		}
		for _, write := range []bool{false, true} {
			for _, now := range []int64{-1, 0, 49} {
				if impl.Allows(p, spot{}, write, now) || impl.Allows(p, spot{X: 255, Y: 255}, write, now) {
					t.Fatalf("%v allows something at %d", p, now)
				}
			}
			if got := impl.Region(p, write); len(got) != 0 {
				t.Fatalf("Region(%v, %v) = %v", p, write, got)
			}
		}
	}
}

// No key makes a Paper without Clauses, or with 7, Genuine.
func TestWrongPapersByTheirOwnKey(t *testing.T) {
	for _, count := range []int{0, 7, 8} {
		list := slices.Repeat([]clause{wholeClause()}, count)
		for _, tag := range []int64{0, 7, greatestSeal} {
			checkGenuine(t, keyOf(tag, paperTexts(3, list)), paper{Tenant: 3, Clauses: list, Tag: tag}, false)
		}
	}
}

func TestWrongClausesAreRefused(t *testing.T) {
	six := paperOf(7, 3, slices.Repeat([]clause{wholeClause()}, 6)...)
	for _, c := range slices.Concat(wrongClauses(), someWrongClauses()) {
		got, is := impl.Minted(7, 3, c)
		checkRefused(t, fmt.Sprintf("Minted(7, 3, %v)", c), got, is)
		for count := 1; count <= 6; count++ {
			p := paper{Tenant: 3, Clauses: six.Clauses[:count], Tag: 7}
			got, is = impl.Narrowed(p, c)
			checkRefused(t, fmt.Sprintf("Narrowed(%v, %v)", p, c), got, is)
		}
	}
	for _, c := range edgeClauses() {
		got, is := impl.Narrowed(six, c)
		checkRefused(t, fmt.Sprintf("Narrowed(%v, %v)", six, c), got, is)
		checkNarrowed(t, paperOf(7, 3, six.Clauses[1:]...), c)
	}
}

func TestMintedOfWrongKeysAndTenants(t *testing.T) {
	for _, c := range edgeClauses() {
		for _, key := range wrongKeys() {
			got, is := impl.Minted(key, 3, c)
			checkRefused(t, fmt.Sprintf("Minted(%d, 3, ..)", key), got, is)
		}
		for _, tenant := range wrongTenants() {
			got, is := impl.Minted(7, tenant, c)
			checkRefused(t, fmt.Sprintf("Minted(7, %d, ..)", tenant), got, is)
		}
	}
}

func TestAllowsOfWrongSpots(t *testing.T) {
	for _, p := range rightPapers(20, 115) {
		for _, s := range wrongSpots() {
			for _, write := range []bool{false, true} {
				if impl.Allows(p, s, write, firstEnd(p)-1) {
					t.Fatalf("%v allows %v", p, s)
				}
			}
		}
	}
}

// roomyCells, roomyClause and roomyPaper are copies with room behind each list,
// in which something stands.
func roomyCells(list []cell) []cell {
	return append(slices.Clone(list), lastCell(), lastCell(), lastCell())[:len(list)]
}

func roomyClause(c clause) clause {
	return clause{Read: roomyCells(c.Read), Write: roomyCells(c.Write), Until: c.Until}
}

func roomyPaper(p paper) paper {
	own := paper{Tenant: p.Tenant, Tag: p.Tag}
	for _, c := range p.Clauses {
		own.Clauses = append(own.Clauses, roomyClause(c))
	}
	own.Clauses = append(own.Clauses, roomyClause(fullestClause()), roomyClause(clause{}))[:len(p.Clauses)]
	return own
}

// clauseWithRoom and paperWithRoom take what stands in that room for a part of
// the lists.
func clauseWithRoom(c clause) clause {
	return clause{Read: c.Read[:len(c.Read)+3], Write: c.Write[:len(c.Write)+3], Until: c.Until}
}

func paperWithRoom(p paper) paper {
	own := paper{Tenant: p.Tenant, Tag: p.Tag}
	for _, c := range p.Clauses[:len(p.Clauses)+2] {
		own.Clauses = append(own.Clauses, clauseWithRoom(c))
	}
	return own
}

func isAsMade(t *testing.T, p, was paper, c, cWas clause) {
	t.Helper()
	if !alikePapers(p, was) || !alikePapers(paperWithRoom(p), paperWithRoom(roomyPaper(was))) {
		t.Fatalf("%v was changed to %v, or the room behind it", was, p)
	}
	if !alikeClauses(c, cWas) || !alikeClauses(clauseWithRoom(c), clauseWithRoom(roomyClause(cWas))) {
		t.Fatalf("%v was changed to %v, or the room behind it", cWas, c)
	}
}

// spoilPaper writes into all of an answer, its spare room as well.
func spoilPaper(p paper) {
	for _, c := range p.Clauses {
		spoil(c.Read)
		spoil(c.Write)
	}
	wipe(p.Clauses)
}

func TestPaperArgumentsStay(t *testing.T) {
	clauses := slices.Concat(edgeClauses(), someWrongClauses())
	for i, was := range slices.Concat(rightPapers(80, 116), wrongPapers()[:100]) {
		cWas := clauses[i%len(clauses)]
		p, c := roomyPaper(was), roomyClause(cWas)
		minted, _ := impl.Minted(7, 3, c)
		spoilPaper(minted)
		narrowed, _ := impl.Narrowed(p, c)
		spoilPaper(narrowed)
		spoil(impl.Region(p, true))
		spoil(impl.Region(p, false))
		impl.ClauseText(c)
		impl.Genuine(7, p)
		impl.Allows(p, spot{X: 3, Y: 200}, i%2 == 0, 5)
		isAsMade(t, p, was, c, cWas)
	}
}

// What is written into an argument later, or into another answer, is in none.
func TestPaperAnswersAreNew(t *testing.T) {
	for i, was := range rightPapers(80, 117) {
		if len(was.Clauses) == 6 {
			continue
		}
		cWas := edgeClauses()[i%len(edgeClauses())]
		p, c := roomyPaper(was), roomyClause(cWas)
		minted, narrowed := checkMinted(t, 7, 3, c), checkNarrowed(t, p, c)
		again := checkNarrowed(t, p, c)
		read, write := impl.Region(p, false), impl.Region(p, true)
		spoilPaper(again)
		spoilPaper(p)
		spoil(c.Read)
		spoil(c.Write)
		longer := paper{Tenant: was.Tenant, Clauses: append(slices.Clone(was.Clauses), cWas), Tag: sealOf(was.Tag, clauseTextOf(cWas))}
		if !alikePapers(minted, paperOf(7, 3, cWas)) || !alikePapers(narrowed, longer) {
			t.Fatalf("%v or %v share memory", minted, narrowed)
		}
		isFewest(t, was, read, regionOf(was, false))
		isFewest(t, was, write, regionOf(was, true))
		isFewest(t, was, impl.Region(was, true), regionOf(was, true))
	}
}

// One list that is handed in as all of them becomes lists of their own.
func TestListsOfAPaperShareNoMemory(t *testing.T) {
	one := eightApart()
	c := clause{Read: one, Write: one, Until: 50}
	want := paperOf(7, 3, slices.Repeat([]clause{c}, 6)...)
	for i := range 12 {
		got, is := impl.Minted(7, 3, c)
		for range 5 {
			got, is = impl.Narrowed(got, c)
		}
		shared, also := impl.Narrowed(paperOf(7, 3, slices.Repeat([]clause{c}, 5)...), c)
		if !is || !also || !alikePapers(got, want) || !alikePapers(shared, want) {
			t.Fatalf("%v or %v is not %v", got, shared, want)
		}
		for _, p := range []paper{got, shared} {
			lists := []*[]cell{&p.Clauses[i/2].Read, &p.Clauses[i/2].Write}
			spoil(*lists[i%2])
			*lists[i%2] = one
			if !alikePapers(p, want) || !slices.Equal(one, eightApart()) {
				t.Fatalf("list %d shares its memory: %v", i, p)
			}
		}
	}
}

// What comes behind the Clauses of one answer is not in another one: two who
// narrow one Paper don't know of each other.
func TestTwoWhoNarrowOnePaper(t *testing.T) {
	for _, p := range somePapers(60, 118) {
		if len(p.Clauses) > 4 {
			continue
		}
		own := checkNarrowed(t, p, wholeClause())
		first, second := checkNarrowed(t, own, fullestClause()), checkNarrowed(t, own, clause{})
		if last := len(own.Clauses); !alikeClauses(first.Clauses[last], fullestClause()) || !alikeClauses(second.Clauses[last], clause{}) {
			t.Fatalf("%v and %v", first, second)
		}
		checkGenuine(t, 7, first, true)
		checkGenuine(t, 7, second, true)
	}
}

// What was asked ahead of it, or is asked beside it, leaves nothing behind.
func TestPapersHangOnTheirArgumentsAlone(t *testing.T) {
	papers := rightPapers(60, 119)
	var all sync.WaitGroup
	for worker := range 8 {
		all.Go(func() {
			for i := range papers {
				p := papers[(i*(2*worker+1))%len(papers)]
				s := spotsBy(p)[i%len(spotsBy(p))]
				impl.Minted(-1, 3, wholeClause())
				impl.Narrowed(paper{}, wholeClause())
				if !impl.Genuine(7, p) || impl.Allows(p, s, true, 0) != isAllowed(p, s, true, 0) {
					t.Errorf("of %v at %v", p, s)
				}
			}
		})
	}
	all.Wait()
}

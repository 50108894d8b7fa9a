package tests

import (
	"math"
	"slices"
	"sync"
	"testing"

	"loop.example/g00301/impl"
)

type own = impl.Own
type directory = impl.Directory

const fullOwns = 64

func alikeDirectories(a, b directory) bool {
	return a.Epoch == b.Epoch && slices.Equal(a.Owns, b.Owns)
}

func copiedDirectory(d directory) directory {
	d.Owns = slices.Clone(d.Owns)
	return d
}

func cellsIn(owns []own) []cell {
	var list []cell
	for _, o := range owns {
		list = append(list, o.Cell)
	}
	return list
}

func isCell(c cell) bool {
	return c.Level >= 0 && c.Level <= 8 && c.X >= 0 && c.Y >= 0 && max(c.X, c.Y) < int64(math.Pow(2, float64(c.Level)))
}

// isDirectory is the document's words of one, with the Spots counted one by one.
func isDirectory(d directory) bool {
	if d.Epoch < 1 || d.Epoch > greatestId || len(d.Owns) < 1 || len(d.Owns) > fullOwns {
		return false
	}
	for i, o := range d.Owns {
		if !isCell(o.Cell) || o.Shard < 0 || o.Shard > 3 {
			return false
		}
		if i > 0 && !isAhead(d.Owns[i-1].Cell, o.Cell) {
			return false
		}
	}
	return isEachInOne(d.Owns)
}

// isEachInOne counts Spot by Spot in how many Cells it is.
func isEachInOne(owns []own) bool {
	var times shardGrid
	for _, o := range owns {
		for x, y := range placesIn(o.Cell) {
			if times[x][y]++; times[x][y] > 1 {
				return false
			}
		}
	}
	return !slices.ContainsFunc(times[:], func(column [256]int8) bool { return slices.Contains(column[:], 0) })
}

// placesIn are the Spots of a Cell, as they come by its place alone.
func placesIn(c cell) func(yield func(x, y int64) bool) {
	side := int64(256) >> c.Level
	return func(yield func(x, y int64) bool) {
		for x := c.X * side; x < (c.X+1)*side; x++ {
			for y := c.Y * side; y < (c.Y+1)*side; y++ {
				if !yield(x, y) {
					return
				}
			}
		}
	}
}

// isAhead is the order of Cells that are not alike.
func isAhead(a, b cell) bool {
	return corner(a) < corner(b) || corner(a) == corner(b) && a.Level < b.Level
}

// A shardGrid has the Shard of each Spot, -1 where there is none.
type shardGrid [256][256]int8

func (grid *shardGrid) of(s spot) int64 { return int64(grid[s.X][s.Y]) }

func (grid *shardGrid) give(c cell, n int64) {
	for x, y := range placesIn(c) {
		grid[x][y] = int8(n)
	}
}

func shardsIn(d directory) *shardGrid {
	var grid shardGrid
	grid.give(cell{}, -1)
	for _, o := range d.Owns {
		grid.give(o.Cell, o.Shard)
	}
	return &grid
}

func ownAt(d directory, c cell) int {
	return slices.IndexFunc(d.Owns, func(o own) bool { return o.Cell == c })
}

func splitOf(d directory, c cell) (directory, bool) {
	if !isDirectory(d) {
		return directory{}, false
	}
	made, at := copiedDirectory(d), ownAt(d, c)
	if at < 0 || c.Level == 8 || len(d.Owns)+3 > fullOwns || d.Epoch == greatestId {
		return made, false
	}
	made.Owns = slices.Delete(made.Owns, at, at+1)
	for _, q := range fourQuarters(c) {
		made.Owns = append(made.Owns, own{Cell: q, Shard: d.Owns[at].Shard})
	}
	slices.SortFunc(made.Owns, func(a, b own) int { return int(corner(a.Cell) - corner(b.Cell)) })
	made.Epoch++
	return made, true
}

func givenOf(d directory, c cell, to int64) (directory, bool) {
	if !isDirectory(d) {
		return directory{}, false
	}
	made, at := copiedDirectory(d), ownAt(d, c)
	if at < 0 || to < 0 || to > 3 || d.Owns[at].Shard == to || d.Epoch == greatestId {
		return made, false
	}
	made.Owns[at].Shard = to
	made.Epoch++
	return made, true
}

// shardsOfItem are the Shards of an Item's new Spot and of its old one, -1 where
// it has none.
func shardsOfItem(grid *shardGrid, held map[owner]record, tenant int64, i item) (int64, int64) {
	isNew, isOld := int64(-1), int64(-1)
	if i.Kind == 1 {
		isNew = grid.of(i.At)
	}
	if r, had := held[owner{tenant, i.Id}]; had {
		isOld = grid.of(r.At)
	}
	return isNew, isOld
}

// partsOf is the document's words of right ones.
func partsOf(d directory, b batch, list []record) ([]batch, []int64) {
	var parts []batch
	var shards []int64
	grid, held := shardsIn(d), heldIn(list)
	for n := range int64(4) {
		var items []item
		for _, i := range b.Items {
			isNew, isOld := shardsOfItem(grid, held, b.Tenant, i)
			if isNew == n {
				items = append(items, i)
			} else if isOld == n {
				items = append(items, cutOf(i.Id))
			}
		}
		if items != nil {
			parts, shards = append(parts, batchAt(b.Tenant, b.Seq, items...)), append(shards, n)
		}
	}
	return parts, shards
}

func alikeBatches(a, b batch) bool {
	return a.Tenant == b.Tenant && a.Seq == b.Seq && slices.Equal(a.Items, b.Items)
}

func alikeParts(a, b []batch) bool { return slices.EqualFunc(a, b, alikeBatches) }

func checkSplit(t *testing.T, d directory, c cell) (directory, bool) {
	t.Helper()
	got, is := impl.Split(d, c)
	want, wantIs := splitOf(d, c)
	if is != wantIs || !alikeDirectories(got, want) {
		t.Fatalf("Split(%v, %v) = %v, %v, not %v, %v", d, c, got, is, want, wantIs)
	}
	if isDirectory(d) && (!impl.DirectoryOk(got) || *shardsIn(got) != *shardsIn(d)) {
		t.Fatalf("Split(%v, %v) = %v is not right, or has other Shards", d, c, got)
	}
	return got, is
}

func checkSplitSays(t *testing.T, d directory, c cell, want bool) directory {
	t.Helper()
	got, is := checkSplit(t, d, c)
	if is != want {
		t.Fatalf("Split(%v, %v) says %v", d, c, is)
	}
	return got
}

func checkGiven(t *testing.T, d directory, c cell, to int64) (directory, bool) {
	t.Helper()
	got, is := impl.Given(d, c, to)
	want, wantIs := givenOf(d, c, to)
	if is != wantIs || !alikeDirectories(got, want) {
		t.Fatalf("Given(%v, %v, %d) = %v, %v, not %v, %v", d, c, to, got, is, want, wantIs)
	}
	if !isDirectory(d) {
		return got, is
	}
	grid := shardsIn(d)
	if is {
		grid.give(c, to)
	}
	if !impl.DirectoryOk(got) || *shardsIn(got) != *grid {
		t.Fatalf("Given(%v, %v, %d) = %v is not right, or has other Shards", d, c, to, got)
	}
	return got, is
}

func checkGivenSays(t *testing.T, d directory, c cell, to int64, want bool) directory {
	t.Helper()
	got, is := checkGiven(t, d, c, to)
	if is != want {
		t.Fatalf("Given(%v, %v, %d) says %v", d, c, to, is)
	}
	return got
}

// checkCorners asks for the Shards of the four corners of the grid and of each
// Cell.
func checkCorners(t *testing.T, d directory) {
	t.Helper()
	grid := shardsIn(d)
	list := gridCorners()
	for _, o := range d.Owns {
		side := int64(256) >> o.Cell.Level
		first := spot{X: o.Cell.X * side, Y: o.Cell.Y * side}
		last := spot{X: first.X + side - 1, Y: first.Y + side - 1}
		list = append(list, first, last, spot{X: first.X, Y: last.Y}, spot{X: last.X, Y: first.Y})
	}
	for _, s := range list {
		if got, want := impl.ShardOf(d, s), grid.of(s); got != want || got < 0 || got > 3 {
			t.Fatalf("ShardOf(%v, %v) = %d, not %d", d, s, got, want)
		}
	}
}

func checkEachSpot(t *testing.T, d directory) {
	t.Helper()
	grid := shardsIn(d)
	for _, s := range wholeGrid() {
		if got := impl.ShardOf(d, s); got != grid.of(s) {
			t.Fatalf("ShardOf(%v, %v) = %d, not %d", d, s, got, grid.of(s))
		}
	}
}

func checkParts(t *testing.T, d directory, b batch, list []record) ([]batch, []int64) {
	t.Helper()
	parts, shards := impl.Parts(d, b, list)
	want, wantShards := partsOf(d, b, list)
	if !alikeParts(parts, want) || !slices.Equal(shards, wantShards) {
		t.Fatalf("Parts(%v, %v, %v) = %v, %v, not %v, %v", d, b, list, parts, shards, want, wantShards)
	}
	return parts, shards
}

// checkAllItems is the promise of Parts, item by item: each stands in the Shards
// of its Spots and in no others, whole where its new Spot is.
func checkAllItems(t *testing.T, d directory, b batch, list []record, parts []batch, shards []int64) {
	t.Helper()
	if len(parts) != len(shards) {
		t.Fatalf("%d Parts for %d Shards", len(parts), len(shards))
	}
	for n, part := range parts {
		if part.Tenant != b.Tenant || part.Seq != b.Seq || !impl.BatchOk(part) || n > 0 && shards[n-1] >= shards[n] {
			t.Fatalf("Part %v of %v for Shard %d", part, b, shards[n])
		}
	}
	for _, i := range b.Items {
		var want, got []int64
		one := batchAt(b.Tenant, b.Seq, i)
		for _, s := range impl.Spots(list, one) {
			want = append(want, impl.ShardOf(d, s))
		}
		slices.Sort(want)
		for n, part := range parts {
			at := slices.IndexFunc(part.Items, func(other item) bool { return other.Id == i.Id })
			if at < 0 {
				continue
			}
			got = append(got, shards[n])
			isWhole := i.Kind == 2 || impl.ShardOf(d, i.At) == shards[n]
			if isWhole && part.Items[at] != i || !isWhole && part.Items[at] != cutOf(i.Id) {
				t.Fatalf("%v of %v is %v for Shard %d", i, b, part.Items[at], shards[n])
			}
		}
		if !slices.Equal(got, slices.Compact(want)) {
			t.Fatalf("%v of %v is in the Parts of %v, not of %v", i, b, got, want)
		}
	}
}

// ownedBy are the Records whose Spots are a Shard's.
func ownedBy(d directory, list []record, n int64) []record {
	grid := shardsIn(d)
	return slices.DeleteFunc(slices.Clone(list), func(r record) bool { return grid.of(r.At) != n })
}

// checkDoneInParts asks that what can be Done in all can be Done Part by Part,
// in the Records of each Shard alone, and that this is all of it.
func checkDoneInParts(t *testing.T, d directory, b batch, list []record) bool {
	t.Helper()
	all, can := impl.Done(list, b)
	if !can {
		return false
	}
	parts, shards := impl.Parts(d, b, list)
	for n := range int64(4) {
		held := ownedBy(d, list, n)
		if at := slices.Index(shards, n); at >= 0 {
			made, is := impl.Done(held, parts[at])
			if !is {
				t.Fatalf("%v of %v can't be Done in %v", parts[at], b, held)
			}
			held = made
		}
		if want := ownedBy(d, all, n); !impl.Same(held, want) {
			t.Fatalf("Parts(%v, %v, %v) leave %v to Shard %d, not %v", d, b, list, held, n, want)
		}
	}
	return true
}

// divided is the grid with these Cells split, one after the other, and with the
// Shards 0, 1, 2, 3, 0 and so on.
func divided(epoch int64, cells ...cell) directory {
	d := directory{Epoch: 1, Owns: []own{{}}}
	for _, c := range cells {
		d, _ = splitOf(d, c)
	}
	d.Epoch = epoch
	for i := range d.Owns {
		d.Owns[i].Shard = int64(i) % 4
	}
	return d
}

// around are the Cells that have s, from the grid on down to this Level.
func around(s spot, level int64) []cell {
	var list []cell
	for l := range level + 1 {
		list = append(list, cell{Level: l, X: s.X >> (8 - l), Y: s.Y >> (8 - l)})
	}
	return list
}

// level3 are all 21 Cells of which the 64 of Level 3 are made.
func level3() []cell { return slices.Concat(cellsOf(0), cellsOf(1), cellsOf(2)) }

// threeChains go down at three corners, so that there are 64 Owns, some of them
// of Level 8.
func threeChains() []cell {
	return slices.Concat(around(spot{}, 7), around(spot{X: 255}, 7)[1:], around(spot{X: 255, Y: 255}, 6)[1:])
}

func quartersOfFour(epoch int64) directory { return divided(epoch, cell{}) }

func edgeDirectories() []directory {
	all := []directory{
		{Epoch: 1, Owns: []own{{}}}, {Epoch: 1, Owns: []own{{Shard: 3}}}, {Epoch: greatestId, Owns: []own{{Shard: 1}}}, {Epoch: 2, Owns: []own{{Shard: 2}}},
		quartersOfFour(1), quartersOfFour(2), quartersOfFour(greatestId - 1), quartersOfFour(greatestId),
		divided(1, slices.Concat(cellsOf(0), cellsOf(1))...), divided(7, level3()...), divided(1, level3()...), divided(greatestId, level3()...),
		divided(21, level3()[:20]...), divided(20, level3()[:19]...), divided(22, threeChains()...), divided(21, threeChains()[:20]...),
	}
	for _, s := range append(gridCorners(), spot{X: 127, Y: 128}, spot{X: 128, Y: 127}, spot{X: 85, Y: 170}) {
		all = append(all, divided(9, around(s, 7)...), divided(8, around(s, 6)...))
	}
	return all
}

// someDirectories are right ones by a fixed rule, from 1 Own to 64.
func someDirectories(n int, seed uint32) []directory {
	next := someRule(seed)
	var all []directory
	for i := range n {
		d := directory{Epoch: 1, Owns: []own{{}}}
		for range next(int64(2 + i%25)) {
			d, _ = splitOf(d, d.Owns[next(int64(len(d.Owns)))].Cell)
		}
		for j := range d.Owns {
			d.Owns[j].Shard = next(int64(1 + i%4))
		}
		d.Epoch = 1 + next(greatestId)
		all = append(all, d)
	}
	return all
}

func rightDirectories(n int, seed uint32) []directory {
	return append(edgeDirectories(), someDirectories(n, seed)...)
}

// bases are right ones, of each of which the wrong ones below have one thing
// that is not right.
func bases() []directory {
	return []directory{{Epoch: 5, Owns: []own{{Shard: 2}}}, quartersOfFour(5), divided(5, level3()[:9]...), divided(5, level3()...), divided(5, threeChains()...)}
}

func withOwns(d directory, owns ...own) directory { return directory{Epoch: d.Epoch, Owns: owns} }

// misplaced are Directories of which one Own is left out, twice there, at
// another place, or has one within it.
func misplaced(d directory) []directory {
	var all []directory
	back := slices.Clone(d.Owns)
	slices.Reverse(back)
	if len(back) > 1 {
		all = append(all, withOwns(d, back...))
	}
	for i, o := range d.Owns {
		all = append(all,
			withOwns(d, slices.Delete(slices.Clone(d.Owns), i, i+1)...),
			withOwns(d, slices.Insert(slices.Clone(d.Owns), i, o)...),
			withOwns(d, append(slices.Clone(d.Owns), o)...),
			withOwns(d, slices.Insert(slices.Clone(d.Owns), i, own{Cell: impl.Up(o.Cell)})...),
		)
		if i > 0 {
			turned, twice := slices.Clone(d.Owns), slices.Clone(d.Owns)
			turned[i-1], turned[i] = turned[i], turned[i-1]
			twice[i] = twice[i-1]
			all = append(all, withOwns(d, turned...), withOwns(d, twice...), withOwns(d, slices.Insert(slices.Clone(d.Owns), i-1, o)...))
		}
		if o.Cell.Level == 8 {
			continue
		}
		for n, q := range fourQuarters(o.Cell) {
			within, less := own{Cell: q, Shard: o.Shard}, slices.Clone(d.Owns)
			less[i] = within
			all = append(all, withOwns(d, slices.Insert(slices.Clone(d.Owns), i+1, within)...), withOwns(d, less...))
			three := slices.Delete(fourQuarters(o.Cell), n, n+1)
			all = append(all, withOwns(d, slices.Replace(slices.Clone(d.Owns), i, i+1, own{Cell: three[0]}, own{Cell: three[1]}, own{Cell: three[2]})...))
		}
	}
	return all
}

// tooManyOwns have each Spot in just one of them, or but for one.
func tooManyOwns() []directory {
	full := divided(5, level3()...)
	more := slices.Concat([]own{}, full.Owns[:63], []own{{Cell: fourQuarters(full.Owns[63].Cell)[0]}, {Cell: fourQuarters(full.Owns[63].Cell)[1]}, {Cell: fourQuarters(full.Owns[63].Cell)[2]}, {Cell: fourQuarters(full.Owns[63].Cell)[3]}})
	all := []directory{withOwns(full, more...), withOwns(full, more[:65]...), withOwns(full, append(slices.Clone(full.Owns), own{})...), withOwns(full, make([]own, 65)...)}
	for _, level := range []int64{4, 8} {
		var owns []own
		for _, c := range cellsOf(level) {
			owns = append(owns, own{Cell: c})
		}
		slices.SortFunc(owns, func(a, b own) int { return int(impl.Order(placeOf(a)) - impl.Order(placeOf(b))) })
		all = append(all, withOwns(full, owns...))
	}
	return all
}

func placeOf(o own) spot { return spot{X: impl.RectOf(o.Cell).X, Y: impl.RectOf(o.Cell).Y} }

func wrongShardNumbers() []int64 {
	return []int64{math.MinInt64, -4, -1, 4, 5, 1 << 32, 1<<32 + 1, math.MaxInt64}
}

func wrongDirectories() []directory {
	all := append(tooManyOwns(), directory{}, directory{Epoch: 1}, directory{Epoch: 1, Owns: []own{}}, directory{Owns: []own{{}}})
	// In order by X ahead of Y, and by Y alone.
	all = append(all, directory{Epoch: 1, Owns: []own{{Cell: cell{Level: 1}}, {Cell: cell{Level: 1, Y: 1}}, {Cell: cell{Level: 1, X: 1}}, {Cell: cell{Level: 1, X: 1, Y: 1}}}})
	var rows []own
	for i := range int64(16) {
		rows = append(rows, own{Cell: cell{Level: 2, X: i % 4, Y: i / 4}})
	}
	all = append(all, directory{Epoch: 1, Owns: rows})
	for _, d := range bases() {
		all = append(all, misplaced(d)...)
		for _, epoch := range wrongIds() {
			all = append(all, directory{Epoch: epoch, Owns: d.Owns})
		}
		for _, n := range wrongShardNumbers() {
			for _, at := range []int{0, len(d.Owns) / 2, len(d.Owns) - 1} {
				owns := slices.Clone(d.Owns)
				owns[at].Shard = n
				all = append(all, withOwns(d, owns...))
			}
		}
		for i, c := range wrongCells() {
			owns := slices.Clone(d.Owns)
			owns[i%len(owns)].Cell = c
			first := slices.Clone(d.Owns)
			first[0].Cell = c
			all = append(all, withOwns(d, owns...), withOwns(d, first...), withOwns(d, append(slices.Clone(d.Owns), own{Cell: c})...))
			all = append(all, withOwns(d, slices.Insert(slices.Clone(d.Owns), 0, own{Cell: c})...), withOwns(d, slices.Insert(slices.Clone(d.Owns), len(d.Owns)/2, own{Cell: c})...))
		}
	}
	return all
}

func checkWrongDirectory(t *testing.T, d directory, b batch, list []record) {
	t.Helper()
	if isDirectory(d) || impl.DirectoryOk(d) {
		t.Fatalf("%v is right", d)
	}
	for _, s := range append(gridCorners(), spot{X: 77, Y: 130}, spot{X: 256}, spot{Y: -1}) {
		if got := impl.ShardOf(d, s); got != -1 {
			t.Fatalf("ShardOf(%v, %v) = %d", d, s, got)
		}
	}
	some := append(cellsIn(d.Owns[:min(len(d.Owns), 5)]), cell{}, cell{Level: 1, X: 1}, cell{Level: 9})
	for i, c := range some {
		if got, is := impl.Split(d, c); is || !alikeDirectories(got, directory{}) {
			t.Fatalf("Split(%v, %v) = %v, %v", d, c, got, is)
		}
		for _, n := range []int64{int64(i % 4), int64(i+1) % 4, -1, 4} {
			if got, is := impl.Given(d, c, n); is || !alikeDirectories(got, directory{}) {
				t.Fatalf("Given(%v, %v, %d) = %v, %v", d, c, n, got, is)
			}
		}
	}
	if parts, shards := impl.Parts(d, b, list); len(parts) != 0 || len(shards) != 0 {
		t.Fatalf("Parts(%v, %v, %v) = %v, %v", d, b, list, parts, shards)
	}
}

func TestNewDirectory(t *testing.T) {
	d := impl.NewDirectory()
	if !alikeDirectories(d, directory{Epoch: 1, Owns: []own{{Cell: cell{}, Shard: 0}}}) || !impl.DirectoryOk(d) {
		t.Fatal(d)
	}
	checkEachSpot(t, d)
	wipe(d.Owns)
	d.Owns[0].Shard = 3
	if again := impl.NewDirectory(); impl.ShardOf(again, spot{}) != 0 || !impl.DirectoryOk(again) {
		t.Fatal(again)
	}
}

func TestDirectoryOkOfRightOnes(t *testing.T) {
	counts := map[int]int{}
	for _, d := range rightDirectories(150, 300) {
		if !isDirectory(d) || !impl.DirectoryOk(d) {
			t.Fatalf("%v is not right", d)
		}
		checkCorners(t, d)
		counts[len(d.Owns)]++
	}
	for _, count := range []int{1, 4, 16, 25, 61, 64} {
		if counts[count] == 0 {
			t.Fatalf("none has %d Owns", count)
		}
	}
	for _, epoch := range rightIds() {
		if !impl.DirectoryOk(quartersOfFour(epoch)) {
			t.Fatalf("Epoch %d", epoch)
		}
	}
}

func TestWrongDirectories(t *testing.T) {
	list := ownOf(3, 2)
	for _, d := range wrongDirectories() {
		checkWrongDirectory(t, d, batchOf(3, setOfItem(5, spot{X: 3}, ""), cutOf(100)), list)
	}
}

// Every set of the grid, its quarters and those of one of them, in order and
// with two of them turned.
func TestDirectoryOkOfAllSmallSets(t *testing.T) {
	for at := range 4 {
		few := slices.Concat(cellsOf(0), cellsOf(1), fourQuarters(cellsOf(1)[at]))
		slices.SortFunc(few, func(a, b cell) int {
			if isAhead(a, b) {
				return -1
			}
			return 1
		})
		right := 0
		for bits := range 1 << len(few) {
			d := directory{Epoch: 1}
			for i, c := range few {
				if bits>>i&1 == 1 {
					d.Owns = append(d.Owns, own{Cell: c, Shard: int64(i) % 4})
				}
			}
			want := isDirectory(d)
			if got := impl.DirectoryOk(d); got != want {
				t.Fatalf("DirectoryOk(%v) = %v", d, got)
			}
			if want {
				right++
			}
			for i := 1; i < len(d.Owns); i++ {
				turned := copiedDirectory(d)
				turned.Owns[i-1], turned.Owns[i] = turned.Owns[i], turned.Owns[i-1]
				if impl.DirectoryOk(turned) {
					t.Fatalf("%v is right", turned)
				}
			}
		}
		if right != 3 {
			t.Fatalf("%d are right", right)
		}
	}
}

// Each Spot has one Shard: that of the Own whose Cell has it.
func TestShardOfEachSpot(t *testing.T) {
	for _, d := range []directory{quartersOfFour(1), divided(7, level3()...), divided(9, around(spot{X: 127, Y: 128}, 7)...), divided(22, threeChains()...)} {
		checkEachSpot(t, d)
	}
}

func TestShardOfOffTheGrid(t *testing.T) {
	for _, d := range rightDirectories(8, 301) {
		for _, s := range wrongSpots() {
			if got := impl.ShardOf(d, s); got != -1 {
				t.Fatalf("ShardOf(%v, %v) = %d", d, s, got)
			}
		}
	}
}

func TestSplitNamedEdges(t *testing.T) {
	d := checkSplitSays(t, impl.NewDirectory(), cell{}, true)
	want := directory{Epoch: 2, Owns: []own{{Cell: cell{Level: 1}}, {Cell: cell{Level: 1, X: 1}}, {Cell: cell{Level: 1, Y: 1}}, {Cell: cell{Level: 1, X: 1, Y: 1}}}}
	if !alikeDirectories(d, want) {
		t.Fatalf("%v, not %v", d, want)
	}
	d = checkSplitSays(t, quartersOfFour(9), cell{Level: 1, Y: 1}, true)
	want = directory{Epoch: 10, Owns: []own{
		{Cell: cell{Level: 1}}, {Cell: cell{Level: 1, X: 1}, Shard: 1},
		{Cell: cell{Level: 2, Y: 2}, Shard: 2}, {Cell: cell{Level: 2, X: 1, Y: 2}, Shard: 2}, {Cell: cell{Level: 2, Y: 3}, Shard: 2}, {Cell: cell{Level: 2, X: 1, Y: 3}, Shard: 2},
		{Cell: cell{Level: 1, X: 1, Y: 1}, Shard: 3},
	}}
	if !alikeDirectories(d, want) {
		t.Fatalf("%v, not %v", d, want)
	}
	last := cell{Level: 7, X: 127, Y: 127}
	d = checkSplitSays(t, divided(5, around(spot{X: 255, Y: 255}, 6)...), last, true)
	if d.Owns[len(d.Owns)-1].Cell != lastCell() {
		t.Fatal(d)
	}
	checkSplitSays(t, d, last, false)
}

// Each cause by itself: without it the same Split is done.
func TestSplitSaysNo(t *testing.T) {
	four := quartersOfFour(5)
	for _, c := range append(wrongCells(), cell{}, cell{Level: 2}, cell{Level: 2, X: 1}, cell{Level: 8}, cell{Level: 7, X: 127, Y: 127}) {
		checkSplitSays(t, four, c, false)
		checkSplitSays(t, impl.NewDirectory(), c, c == cell{})
	}
	for _, c := range cellsOf(1) {
		checkSplitSays(t, four, c, true)
	}
	deep := divided(5, around(spot{}, 7)...)
	for _, o := range deep.Owns {
		checkSplitSays(t, deep, o.Cell, o.Cell.Level < 8)
	}
	for _, cells := range [][]cell{level3(), threeChains()} {
		full, less := divided(5, cells...), divided(5, cells[:20]...)
		if len(full.Owns) != 64 || len(less.Owns) != 61 {
			t.Fatal(full, less)
		}
		for _, o := range full.Owns {
			checkSplitSays(t, full, o.Cell, false)
		}
		for _, o := range less.Owns {
			if made := checkSplitSays(t, less, o.Cell, o.Cell.Level < 8); o.Cell.Level < 8 && len(made.Owns) != 64 {
				t.Fatal(made)
			}
		}
	}
	for _, c := range cellsOf(1) {
		checkSplitSays(t, quartersOfFour(greatestId), c, false)
		if made := checkSplitSays(t, quartersOfFour(greatestId-1), c, true); made.Epoch != greatestId {
			t.Fatal(made)
		}
	}
}

func TestGivenNamedEdges(t *testing.T) {
	d := checkGivenSays(t, impl.NewDirectory(), cell{}, 3, true)
	if !alikeDirectories(d, directory{Epoch: 2, Owns: []own{{Shard: 3}}}) {
		t.Fatal(d)
	}
	d = checkGivenSays(t, d, cell{}, 0, true)
	if !alikeDirectories(d, directory{Epoch: 3, Owns: []own{{}}}) {
		t.Fatal(d)
	}
	d = checkGivenSays(t, quartersOfFour(9), cell{Level: 1, X: 1}, 3, true)
	want := directory{Epoch: 10, Owns: []own{{Cell: cell{Level: 1}}, {Cell: cell{Level: 1, X: 1}, Shard: 3}, {Cell: cell{Level: 1, Y: 1}, Shard: 2}, {Cell: cell{Level: 1, X: 1, Y: 1}, Shard: 3}}}
	if !alikeDirectories(d, want) {
		t.Fatalf("%v, not %v", d, want)
	}
	// One of Level 8, and one of 64.
	checkGivenSays(t, divided(5, around(spot{}, 7)...), cell{Level: 8}, 1, true)
	checkGivenSays(t, divided(5, level3()...), cell{Level: 3}, 1, true)
	checkGivenSays(t, divided(5, threeChains()...), lastOwn(divided(5, threeChains()...)).Cell, 1, true)
}

func lastOwn(d directory) own { return d.Owns[len(d.Owns)-1] }

// Each cause by itself: without it the same is given.
func TestGivenSaysNo(t *testing.T) {
	four := quartersOfFour(5)
	for _, c := range append(wrongCells(), cell{}, cell{Level: 2}, cell{Level: 2, X: 1}, cell{Level: 8}, cell{Level: 7, X: 127, Y: 127}) {
		for n := range int64(4) {
			checkGivenSays(t, four, c, n, false)
		}
		checkGivenSays(t, impl.NewDirectory(), c, 1, c == cell{})
	}
	for i, o := range four.Owns {
		for _, n := range wrongShardNumbers() {
			checkGivenSays(t, four, o.Cell, n, false)
		}
		for n := range int64(4) {
			checkGivenSays(t, four, o.Cell, n, n != int64(i))
			checkGivenSays(t, quartersOfFour(greatestId), o.Cell, n, false)
			if made := checkGivenSays(t, quartersOfFour(greatestId-1), o.Cell, n, n != int64(i)); n != int64(i) && made.Epoch != greatestId {
				t.Fatal(made)
			}
		}
	}
}

// Every Cell of the first Levels, and some of each, be it an Own's or not.
func TestEachCellIsSplitAndGiven(t *testing.T) {
	for _, d := range []directory{impl.NewDirectory(), divided(5, level3()[:9]...), divided(5, around(spot{X: 128, Y: 127}, 7)...)} {
		for _, c := range slices.Concat(cellsOf(4), someCells()) {
			split, is := impl.Split(d, c)
			given, was := impl.Given(d, c, 2)
			if ownAt(d, c) >= 0 {
				checkSplit(t, d, c)
				checkGiven(t, d, c, 2)
			} else if is || was || !alikeDirectories(split, d) || !alikeDirectories(given, d) {
				t.Fatalf("%v is no Own's of %v: %v, %v, %v, %v", c, d, split, is, given, was)
			}
		}
	}
}

func TestOwnsOfRightDirectoriesAreSplitAndGiven(t *testing.T) {
	next := someRule(302)
	for _, d := range rightDirectories(60, 303) {
		for range 4 {
			c := d.Owns[next(int64(len(d.Owns)))].Cell
			checkSplit(t, d, c)
			checkGiven(t, d, c, next(4))
		}
	}
}

// From the new one on down to 64 Owns of Level 3, and no more.
func TestSplitToSixtyFour(t *testing.T) {
	d := impl.NewDirectory()
	for _, c := range level3() {
		d = checkSplitSays(t, d, c, true)
	}
	if len(d.Owns) != 64 || d.Epoch != 22 {
		t.Fatal(d)
	}
	for _, c := range cellsOf(3) {
		checkSplitSays(t, d, c, false)
	}
	for i, c := range cellsOf(3) {
		d = checkGivenSays(t, d, c, 1+int64(i)%3, true)
	}
	if d.Epoch != 86 {
		t.Fatal(d)
	}
	checkCorners(t, d)
}

// directoryStep is a Split or a Given by a fixed rule, mostly of an Own that is
// there.
func directoryStep(t *testing.T, d directory, next func(below int64) int64) (directory, bool) {
	t.Helper()
	c := d.Owns[next(int64(len(d.Owns)))].Cell
	switch next(9) {
	case 0:
		c = impl.Up(c)
	case 1:
		c = cell{Level: next(10), X: next(256), Y: next(256)}
	}
	if next(3) == 0 {
		return checkSplit(t, d, c)
	}
	return checkGiven(t, d, c, next(6)-1)
}

// The promise, step by step: Epoch tells how many were done, and each Spot has
// one Shard.
func TestScriptsOfADirectory(t *testing.T) {
	done, not := int64(0), int64(0)
	for seed := range uint32(10) {
		next := someRule(310 + seed)
		d := impl.NewDirectory()
		for i := range 120 {
			was := d.Epoch
			made, is := directoryStep(t, d, next)
			if is {
				was++
				done++
			} else {
				not++
			}
			if d = made; d.Epoch != was {
				t.Fatalf("Epoch is %d, not %d", d.Epoch, was)
			}
			if i%8 == 0 {
				checkCorners(t, d)
			}
		}
		if len(d.Owns) < 30 {
			t.Fatalf("%d Owns: the rule tells too little", len(d.Owns))
		}
		if seed == 0 {
			checkEachSpot(t, d)
		}
	}
	if done < 300 || not < 300 {
		t.Fatalf("%d were done, %d not: the rule tells too little", done, not)
	}
}

// It ends at Epoch MaxId.
func TestEpochEnds(t *testing.T) {
	d := quartersOfFour(greatestId - 3)
	for n := range int64(6) {
		d, _ = checkGiven(t, d, cell{Level: 1}, 1+n%3)
	}
	if d.Epoch != greatestId || d.Owns[0].Shard != 3 {
		t.Fatal(d)
	}
	checkSplitSays(t, d, cell{Level: 1}, false)
	checkCorners(t, d)
}

// quarterSpots are Spots of Shard 0, 1, 2 and 3 of quartersOfFour.
func quarterSpots() []spot {
	return []spot{{X: 127, Y: 127}, {X: 128, Y: 127}, {X: 127, Y: 128}, {X: 128, Y: 128}}
}

func TestPartsNamedEdges(t *testing.T) {
	d, at := quartersOfFour(7), quarterSpots()
	held := []record{{Tenant: 2, Id: 5, At: at[1], Text: "old"}, {Tenant: 3, Id: 5, At: at[0], Text: "old"}, {Tenant: 3, Id: 6, At: at[2]}, {Tenant: 4, Id: 7, At: at[1]}}
	for _, x := range []struct {
		b      batch
		list   []record
		parts  []batch
		shards []int64
	}{
		{batchAt(3, 9, setOfItem(5, at[0], "a")), nil, []batch{batchAt(3, 9, setOfItem(5, at[0], "a"))}, []int64{0}},
		{batchAt(3, 9, setOfItem(5, at[3], "a")), nil, []batch{batchAt(3, 9, setOfItem(5, at[3], "a"))}, []int64{3}},
		// Old Spot and new Spot have one Shard, or two.
		{batchAt(3, 9, setOfItem(5, spot{X: 1}, "a")), held, []batch{batchAt(3, 9, setOfItem(5, spot{X: 1}, "a"))}, []int64{0}},
		{batchAt(3, 9, setOfItem(5, at[0], "old")), held, []batch{batchAt(3, 9, setOfItem(5, at[0], "old"))}, []int64{0}},
		{batchAt(3, 9, setOfItem(5, at[3], "a")), held, []batch{batchAt(3, 9, cutOf(5)), batchAt(3, 9, setOfItem(5, at[3], "a"))}, []int64{0, 3}},
		{batchAt(3, 9, setOfItem(6, at[1], "a")), held, []batch{batchAt(3, 9, setOfItem(6, at[1], "a")), batchAt(3, 9, cutOf(6))}, []int64{1, 2}},
		// Others with that Id, and its own others, are no old Spots of it.
		{batchAt(2, 9, setOfItem(6, at[0], "")), held, []batch{batchAt(2, 9, setOfItem(6, at[0], ""))}, []int64{0}},
		{batchAt(3, 9, setOfItem(7, at[0], "")), held, []batch{batchAt(3, 9, setOfItem(7, at[0], ""))}, []int64{0}},
		{batchAt(2, 9, setOfItem(5, at[0], "")), held, []batch{batchAt(2, 9, setOfItem(5, at[0], "")), batchAt(2, 9, cutOf(5))}, []int64{0, 1}},
		// Cuts, also of what is not there.
		{batchAt(3, 9, cutOf(6)), held, []batch{batchAt(3, 9, cutOf(6))}, []int64{2}},
		{batchAt(3, 9, cutOf(7)), held, nil, nil},
		{batchAt(3, 9, cutOf(6)), nil, nil, nil},
		{batchAt(3, 9, cutOf(7), cutOf(5)), held, []batch{batchAt(3, 9, cutOf(5))}, []int64{0}},
		// Six, in order, some of them in two Parts.
		{
			batchAt(3, greatestId, setOfItem(9, at[3], ""), cutOf(6), setOfItem(5, at[3], "new"), setOfItem(1, at[0], "x"), setOfItem(8, at[2], ""), setOfItem(2, at[0], "y")), held,
			[]batch{
				batchAt(3, greatestId, cutOf(5), setOfItem(1, at[0], "x"), setOfItem(2, at[0], "y")),
				batchAt(3, greatestId, cutOf(6), setOfItem(8, at[2], "")),
				batchAt(3, greatestId, setOfItem(9, at[3], ""), setOfItem(5, at[3], "new")),
			},
			[]int64{0, 2, 3},
		},
	} {
		parts, shards := checkParts(t, d, x.b, x.list)
		if !alikeParts(parts, x.parts) || !slices.Equal(shards, x.shards) {
			t.Errorf("Parts(%v, %v) = %v, %v, not %v, %v", x.b, x.list, parts, shards, x.parts, x.shards)
		}
		checkAllItems(t, d, x.b, x.list, parts, shards)
	}
}

// Each Item with its new Spot in one Shard, or cut, and its old one in one, or
// none, ahead of each other such Item.
func TestPartsOfAllPairsOfItems(t *testing.T) {
	d, at := quartersOfFour(1), quarterSpots()
	for kinds := range 625 {
		var list []record
		var items []item
		for n := range int64(2) {
			isNew, isOld := kinds%5, kinds/5%5
			if kinds /= 25; isOld < 4 {
				list = append(list, record{Tenant: 50, Id: 7 - n, At: at[isOld], Text: "old"})
			}
			one := cutOf(7 - n)
			if isNew < 4 {
				one = setOfItem(7-n, at[isNew], "new")
			}
			items = append(items, one)
		}
		slices.Reverse(list)
		for _, b := range []batch{batchAt(50, 3, items...), batchAt(50, 3, items[0]), batchAt(50, 3, items[1]), batchAt(51, 3, items...)} {
			parts, shards := checkParts(t, d, b, list)
			checkAllItems(t, d, b, list, parts, shards)
			checkDoneInParts(t, d, b, list)
		}
	}
}

// partCases are right ones by a fixed rule. Each third one has a Tenant of its
// own with Records all over the four quarters, and others have Items about the
// middle of the grid, so that there are Parts for many Shards.
func partCases(n int, seed uint32) ([]directory, []batch, [][]record) {
	next := someRule(seed)
	some, lists := rightDirectories(60, seed+1), rightRecordLists(seed+2)
	var all []directory
	var batches []batch
	var records [][]record
	for i := range n {
		d, list := some[next(int64(len(some)))], lists[i%len(lists)]
		if i%3 == 0 {
			d, list = quartersOfFour(1+next(greatestId)), ownOf(50, 1+next(19))
			for j := range list {
				list[j].At = spot{X: next(256), Y: next(256)}
			}
		}
		b := someBatch(list, 99, 200, next)
		for j := range b.Items {
			if b.Items[j].Kind == 1 && i%3 == 1 {
				b.Items[j].At = spot{X: 127 + next(2), Y: 127 + next(2)}
			}
		}
		all, batches, records = append(all, d), append(batches, b), append(records, list)
	}
	return all, batches, records
}

func TestPartsHaveAllItems(t *testing.T) {
	counts, done := map[int]int{}, 0
	all, batches, lists := partCases(500, 330)
	for i, d := range all {
		parts, shards := checkParts(t, d, batches[i], lists[i])
		checkAllItems(t, d, batches[i], lists[i], parts, shards)
		counts[len(parts)]++
		if checkDoneInParts(t, d, batches[i], lists[i]) {
			done++
		}
	}
	for n := 1; n <= 4; n++ {
		if counts[n] < 10 {
			t.Fatalf("%d Parts come %d times: the rule tells too little", n, counts[n])
		}
	}
	if done < 100 {
		t.Fatalf("%d could be Done: the rule tells too little", done)
	}
}

func TestPartsOfEdgeBatches(t *testing.T) {
	all := someDirectories(12, 335)
	for i, b := range edgeBatches() {
		d, list := all[i%len(all)], edgeRecordLists()[i%9]
		parts, shards := checkParts(t, d, b, list)
		checkAllItems(t, d, b, list, parts, shards)
	}
}

// Where all is one Shard's there is one Part: the Batch, but for cuts of what is
// not there.
func TestPartsOfOneShard(t *testing.T) {
	_, batches, lists := partCases(120, 340)
	full := divided(5, level3()...)
	for i, b := range batches {
		held := heldIn(lists[i])
		want := slices.DeleteFunc(slices.Clone(b.Items), func(one item) bool {
			_, had := held[owner{b.Tenant, one.Id}]
			return one.Kind == 2 && !had
		})
		for n := range int64(4) {
			for _, d := range []directory{{Epoch: 3, Owns: []own{{Shard: n}}}, allOfOne(full, n)} {
				parts, shards := checkParts(t, d, b, lists[i])
				if len(want) == 0 && len(parts) == 0 && len(shards) == 0 {
					continue
				}
				if len(parts) != 1 || !slices.Equal(parts[0].Items, want) || !slices.Equal(shards, []int64{n}) {
					t.Fatalf("Parts(%v, %v, %v) = %v, %v", d, b, lists[i], parts, shards)
				}
			}
		}
	}
}

func allOfOne(d directory, n int64) directory {
	d = copiedDirectory(d)
	for i := range d.Owns {
		d.Owns[i].Shard = n
	}
	return d
}

// What is Split has the same Parts.
func TestSplitChangesNoParts(t *testing.T) {
	all, batches, lists := partCases(120, 345)
	for i, d := range all {
		want, wantShards := impl.Parts(d, batches[i], lists[i])
		for _, o := range d.Owns[:min(3, len(d.Owns))] {
			made, _ := impl.Split(d, o.Cell)
			parts, shards := impl.Parts(made, batches[i], lists[i])
			if !alikeParts(parts, want) || !slices.Equal(shards, wantShards) {
				t.Fatalf("Parts(%v, %v, %v) = %v, %v, not %v, %v", made, batches[i], lists[i], parts, shards, want, wantShards)
			}
		}
	}
}

func checkNoParts(t *testing.T, d directory, b batch, list []record) {
	t.Helper()
	if parts, shards := impl.Parts(d, b, list); len(parts) != 0 || len(shards) != 0 {
		t.Fatalf("Parts(%v, %v, %v) = %v, %v", d, b, list, parts, shards)
	}
}

func TestPartsOfWrongOnes(t *testing.T) {
	d, b := quartersOfFour(5), batchOf(3, sixItems()...)
	for _, list := range wrongRecordLists() {
		checkNoParts(t, d, b, list)
	}
	for _, wrong := range wrongBatches() {
		checkNoParts(t, d, wrong, ownOf(3, 5))
		checkNoParts(t, d, wrong, nil)
	}
	wrong := wrongRecordLists()
	for i, b := range wrongBatches() {
		checkNoParts(t, d, b, wrong[i%len(wrong)])
		checkNoParts(t, directory{}, b, wrong[i%len(wrong)])
	}
	if parts, shards := impl.Parts(d, b, ownOf(3, 5)); len(parts) == 0 || len(shards) == 0 {
		t.Fatal("the right ones have no Parts")
	}
}

// roomyDirectory is a copy with room behind its Owns, in which something stands.
func roomyDirectory(d directory) directory {
	room := []own{{Cell: cell{Level: 7, X: 7}, Shard: 7}, {Cell: cell{Level: 8}}, {Shard: -1}}
	return withOwns(d, slices.Concat(d.Owns, room)[:len(d.Owns)]...)
}

func isSameDirectory(d, was directory) bool {
	room := roomyDirectory(was).Owns
	return d.Epoch == was.Epoch && slices.Equal(d.Owns, was.Owns) && slices.Equal(d.Owns[:len(d.Owns)+3], room[:len(room)+3])
}

// A directoryAnswer is all that is answered of one Directory, with one Batch.
type directoryAnswer struct {
	made   []directory
	parts  []batch
	shards []int64
	of     []int64
	ok     bool
}

func directoryAnswers(d directory, b batch, list []record) directoryAnswer {
	var all directoryAnswer
	ask := []cell{{}, {Level: 1, X: 1}, {Level: 8}, {Level: 9}}
	for at := range min(3, len(d.Owns)) {
		ask = append(ask, d.Owns[len(d.Owns)-1-at].Cell)
	}
	for i, c := range ask {
		split, _ := impl.Split(d, c)
		one, _ := impl.Given(d, c, int64(i)%4)
		other, _ := impl.Given(d, c, int64(i+1)%4)
		none, _ := impl.Given(d, c, 4)
		all.made = append(all.made, split, one, other, none)
	}
	for _, s := range append(gridCorners(), spot{X: 256}) {
		all.of = append(all.of, impl.ShardOf(d, s))
	}
	all.parts, all.shards = impl.Parts(d, b, list)
	all.ok = impl.DirectoryOk(d)
	return all
}

func (all directoryAnswer) wiped() {
	for _, d := range all.made {
		wipe(d.Owns)
	}
	for _, b := range all.parts {
		wipe(b.Items)
	}
	wipe(all.parts)
	wipe(all.shards)
}

func (all directoryAnswer) copied() directoryAnswer {
	made, parts := slices.Clone(all.made), slices.Clone(all.parts)
	for i := range made {
		made[i] = copiedDirectory(made[i])
	}
	for i := range parts {
		parts[i].Items = slices.Clone(parts[i].Items)
	}
	return directoryAnswer{made: made, parts: parts, shards: slices.Clone(all.shards), of: slices.Clone(all.of), ok: all.ok}
}

func (all directoryAnswer) alike(other directoryAnswer) bool {
	return slices.EqualFunc(all.made, other.made, alikeDirectories) && alikeParts(all.parts, other.parts) &&
		slices.Equal(all.shards, other.shards) && slices.Equal(all.of, other.of) && all.ok == other.ok
}

// directoryCases are right ones and wrong ones, with Batches and Records that
// are right and wrong.
func directoryCases(seed uint32) ([]directory, []batch, [][]record) {
	all, batches, lists := partCases(150, seed)
	wrong, wrongOnes, wrongLists := wrongDirectories()[:400], wrongBatches(), wrongRecordLists()
	for i := range 150 {
		all = append(all, all[i], all[i], wrong[i], wrong[len(wrong)-1-i])
		batches = append(batches, wrongOnes[i%len(wrongOnes)], batches[i], batches[i], wrongOnes[i%len(wrongOnes)])
		lists = append(lists, lists[i], wrongLists[i%len(wrongLists)], lists[i], wrongLists[i%len(wrongLists)])
	}
	return all, batches, lists
}

func TestDirectoryArgumentsStay(t *testing.T) {
	all, batches, lists := directoryCases(350)
	for i, was := range all {
		d, b, list := roomyDirectory(was), roomyBatch(batches[i]), roomyRecords(lists[i])
		directoryAnswers(d, b, list).wiped()
		if !isSameDirectory(d, was) {
			t.Fatalf("%v was changed, or the room behind it", was)
		}
		if !isSameBatch(b, batches[i]) {
			t.Fatalf("%v was changed, or the room behind it", batches[i])
		}
		if !areUntouched(list, lists[i]) {
			t.Fatalf("%v was changed, or the room behind it", lists[i])
		}
	}
}

// What is written into an argument later, or into another answer, is in none.
func TestDirectoryAnswersAreNew(t *testing.T) {
	all, batches, lists := directoryCases(360)
	for i, was := range all {
		d, b, list := roomyDirectory(was), roomyBatch(batches[i]), roomyRecords(lists[i])
		got := directoryAnswers(d, b, list)
		want := got.copied()
		directoryAnswers(d, b, list).wiped()
		wipe(d.Owns)
		wipe(b.Items)
		wipe(list)
		if !got.alike(want) {
			t.Fatalf("an answer of %v, %v and %v shares its memory", was, batches[i], lists[i])
		}
		for j, one := range got.made {
			wipe(one.Owns)
			got.made[j] = want.made[j]
			if !got.alike(want) {
				t.Fatalf("answer %d of %v shares its memory", j, was)
			}
		}
	}
}

// Of one answer of Parts no list is written into with another one, nor into its
// room.
func TestPartsListsShareNoMemory(t *testing.T) {
	all, batches, lists := partCases(100, 370)
	for i, d := range all {
		parts, shards := impl.Parts(d, batches[i], lists[i])
		want, wantShards := partsOf(d, batches[i], lists[i])
		for n := range parts {
			wipe(parts[n].Items)
			parts[n].Items = want[n].Items
			if !alikeParts(parts, want) || !slices.Equal(shards, wantShards) {
				t.Fatalf("Part %d of %v shares its memory", n, batches[i])
			}
		}
		wipe(parts)
		if !slices.Equal(shards, wantShards) {
			t.Fatalf("the Shards of %v share their memory", batches[i])
		}
	}
}

// Two who go on from one Directory don't know of each other.
func TestTwoGoOnFromOneDirectory(t *testing.T) {
	base := checkSplitSays(t, impl.NewDirectory(), cell{}, true)
	first := checkSplitSays(t, base, cell{Level: 1, X: 1, Y: 1}, true)
	second := checkGivenSays(t, base, cell{Level: 1, X: 1, Y: 1}, 2, true)
	third := checkGivenSays(t, base, cell{Level: 1}, 3, true)
	fourth := checkGivenSays(t, base, cell{Level: 1}, 0, false)
	if len(base.Owns) != 4 || base.Epoch != 2 || len(first.Owns) != 7 || second.Owns[3].Shard != 2 || second.Owns[0].Shard != 0 || third.Owns[0].Shard != 3 || third.Owns[3].Shard != 0 || !alikeDirectories(fourth, base) {
		t.Fatal(base, first, second, third, fourth)
	}
	for _, d := range []directory{base, first, second, third, fourth} {
		checkCorners(t, d)
	}
}

// What was asked ahead of it, or is asked beside it, leaves nothing behind.
func TestDirectoriesHangOnTheirArgumentsAlone(t *testing.T) {
	all, batches, lists := directoryCases(380)
	all, batches, lists = all[:200], batches[:200], lists[:200]
	var want []directoryAnswer
	for i, d := range all {
		want = append(want, directoryAnswers(d, batches[i], lists[i]))
	}
	var workers sync.WaitGroup
	for worker := range 8 {
		workers.Go(func() {
			for i := range all {
				n := (i * (2*worker + 1)) % len(all)
				if !directoryAnswers(all[n], batches[n], lists[n]).alike(want[n]) {
					t.Errorf("the answers of %v are others", all[n])
				}
			}
		})
	}
	workers.Wait()
}

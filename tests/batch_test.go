package tests

import (
	"fmt"
	"math"
	"slices"
	"strings"
	"sync"
	"testing"

	"loop.example/g00301/impl"
)

type item = impl.Item
type batch = impl.Batch

func setOfItem(id int64, at spot, text string) item {
	return item{Kind: 1, Id: id, At: at, Text: text}
}

func cutOf(id int64) item { return item{Kind: 2, Id: id} }

func batchOf(tenant int64, items ...item) batch { return batch{Tenant: tenant, Seq: 1, Items: items} }

// isItem is the document's words of one Item.
func isItem(i item) bool {
	if i.Kind == 2 {
		return i.Id >= 1 && i.Id <= greatestId && i.At.X == 0 && i.At.Y == 0 && i.Text == ""
	}
	return i.Kind == 1 && isRecord(record{Tenant: 1, Id: i.Id, At: i.At, Text: i.Text})
}

func isBatch(b batch) bool {
	ids := map[int64]int{}
	for _, i := range b.Items {
		ids[i.Id]++
		if !isItem(i) || ids[i.Id] > 1 {
			return false
		}
	}
	return b.Tenant >= 1 && b.Tenant <= 99 && b.Seq >= 1 && b.Seq <= greatestId && len(b.Items) >= 1 && len(b.Items) <= 6
}

// heldAfter is what a map holds once a right Batch was done in right Records;
// false where it can't be done.
func heldAfter(list []record, b batch) (map[owner]record, bool) {
	held := heldIn(list)
	for _, i := range b.Items {
		at := owner{b.Tenant, i.Id}
		_, had := held[at]
		switch {
		case i.Kind == 2 && had:
			delete(held, at)
		case i.Kind == 1 && (had || len(held) < 400):
			held[at] = record{Tenant: b.Tenant, Id: i.Id, At: i.At, Text: i.Text}
		default:
			return nil, false
		}
	}
	own := 0
	for at := range held {
		if at.tenant == b.Tenant {
			own++
		}
	}
	return held, own <= 20
}

func spotsTold(list []record, b batch) []spot {
	held := heldIn(list)
	var told []spot
	for _, i := range b.Items {
		if i.Kind == 1 {
			told = append(told, i.At)
		}
		if r, had := held[owner{b.Tenant, i.Id}]; had {
			told = append(told, r.At)
		}
	}
	return told
}

func idsTold(b batch) []int64 {
	var ids []int64
	for _, i := range b.Items {
		ids = append(ids, i.Id)
	}
	slices.Sort(ids)
	return ids
}

// isPermitted asks a right Paper of a right Batch at a time.
func isPermitted(p paper, list []record, b batch, now int64) bool {
	for _, s := range spotsTold(list, b) {
		if !isAllowed(p, s, true, now) {
			return false
		}
	}
	return p.Tenant == b.Tenant
}

// checkDone holds what Done answers for a right Batch and right Records against
// a map, and asks that nothing of other Tenants is another.
func checkDone(t *testing.T, list []record, b batch) ([]record, bool) {
	t.Helper()
	got, is := impl.Done(list, b)
	held, can := heldAfter(list, b)
	want := list
	if can {
		want = inTurns(held)
	}
	if is != can || !slices.Equal(got, want) {
		t.Fatalf("Done(%v, %v) = %v, %v, not %v, %v", list, b, got, is, want, can)
	}
	others := func(all []record) []record {
		return slices.DeleteFunc(slices.Clone(all), func(r record) bool { return r.Tenant == b.Tenant })
	}
	if !impl.RecordsOk(got) || !slices.Equal(others(got), others(list)) {
		t.Fatalf("Done(%v, %v) = %v", list, b, got)
	}
	return got, is
}

func checkSpots(t *testing.T, list []record, b batch) {
	t.Helper()
	if got, want := impl.Spots(list, b), spotsTold(list, b); !slices.Equal(got, want) {
		t.Fatalf("Spots(%v, %v) = %v, not %v", list, b, got, want)
	}
}

func checkPermitted(t *testing.T, p paper, list []record, b batch, now int64, want bool) {
	t.Helper()
	if got := impl.Permitted(p, list, b, now); got != want {
		t.Fatalf("Permitted(%v, %v, %v, %d) = %v", p, list, b, now, got)
	}
}

// sixItems are right ones, with Ids that don't rise.
func sixItems() []item {
	return []item{
		setOfItem(9, spot{X: 255, Y: 255}, strings.Repeat("x", 20)), cutOf(greatestId), setOfItem(1, spot{}, ""),
		setOfItem(10, spot{X: 255}, "\x00"), cutOf(2), setOfItem(greatestId-1, spot{Y: 255}, "\xff"),
	}
}

// edgeBatches are right ones at the edges that the document names.
func edgeBatches() []batch {
	var all []batch
	for count := 1; count <= 6; count++ {
		for _, tenant := range []int64{1, 2, 50, 98, 99} {
			for _, seq := range []int64{1, 2, 50000, greatestId - 1, greatestId} {
				all = append(all, batch{Tenant: tenant, Seq: seq, Items: sixItems()[6-count:]}, batch{Tenant: tenant, Seq: seq, Items: sixItems()[:count]})
			}
		}
	}
	for _, id := range rightIds() {
		all = append(all, batchOf(3, cutOf(id)), batchOf(3, setOfItem(id, spot{}, "")))
		for _, s := range gridCorners() {
			all = append(all, batchOf(3, setOfItem(id, s, "")))
		}
		for _, text := range rightTexts() {
			all = append(all, batchOf(3, setOfItem(id, spot{X: 7, Y: 9}, text)))
		}
	}
	return all
}

// wrongItems can stand in no Batch.
func wrongItems() []item {
	all := []item{{}, {Kind: 1}, {Kind: 2}}
	for _, kind := range []int64{math.MinInt64, -2, -1, 0, 3, 4, 1<<32 + 1, 1<<32 + 2, math.MaxInt64} {
		all = append(all, item{Kind: kind, Id: 7}, item{Kind: kind, Id: 7, At: spot{X: 7}, Text: "a"})
	}
	for _, id := range wrongIds() {
		all = append(all, setOfItem(id, spot{X: 7}, "a"), cutOf(id))
	}
	for _, s := range wrongSpots() {
		all = append(all, setOfItem(7, s, "a"), item{Kind: 2, Id: 7, At: s})
	}
	for _, text := range wrongTexts() {
		all = append(all, setOfItem(7, spot{X: 7}, text), item{Kind: 2, Id: 7, Text: text})
	}
	for _, s := range []spot{{X: 1}, {Y: 1}, {X: 255}, {Y: 255}, {X: 7, Y: 9}} {
		all = append(all, item{Kind: 2, Id: 7, At: s}, item{Kind: 2, Id: 7, At: s, Text: "a"})
	}
	for _, text := range rightTexts()[1:] {
		all = append(all, item{Kind: 2, Id: 7, Text: text})
	}
	return all
}

func manyItems(count int64) []item {
	var list []item
	for i := range count {
		list = append(list, setOfItem(100+i, spot{X: i % 256}, ""))
	}
	return list
}

func wrongBatches() []batch {
	all := []batch{{}, {Tenant: 3, Seq: 1}, {Tenant: 3, Seq: 1, Items: []item{}}, {Items: sixItems()}}
	for _, tenant := range wrongTenants() {
		all = append(all, batch{Tenant: tenant, Seq: 1, Items: sixItems()}, batch{Tenant: tenant, Seq: 1, Items: sixItems()[:1]})
	}
	for _, seq := range wrongIds() {
		all = append(all, batch{Tenant: 3, Seq: seq, Items: sixItems()}, batch{Tenant: 3, Seq: seq, Items: sixItems()[:1]})
	}
	for _, count := range []int64{7, 8, 12, 100, 401} {
		all = append(all, batchOf(3, manyItems(count)...))
	}
	for _, i := range wrongItems() {
		for at := range 6 {
			all = append(all, batchOf(3, slices.Replace(manyItems(6), at, at+1, i)...))
		}
		all = append(all, batchOf(3, i))
	}
	for first := range 6 {
		for second := range first {
			for _, again := range []item{cutOf(100 + int64(second)), setOfItem(100+int64(second), spot{Y: 3}, "again"), manyItems(6)[second]} {
				all = append(all, batchOf(3, slices.Replace(manyItems(6), first, first+1, again)...))
			}
		}
	}
	return append(all, batchOf(3, setOfItem(7, spot{}, ""), setOfItem(7, spot{}, "")), batchOf(3, cutOf(7), cutOf(7)), batchOf(3, cutOf(7), setOfItem(7, spot{}, "")))
}

// someBatch is a right one, mostly of Ids that its Tenant has.
func someBatch(list []record, tenants, ids int64, next func(below int64) int64) batch {
	b := batch{Tenant: 1 + next(tenants), Seq: 1 + next(greatestId)}
	if len(list) > 0 && next(3) > 0 {
		b.Tenant = list[next(int64(len(list)))].Tenant
	}
	own := ofTenant(list, b.Tenant)
	used := map[int64]bool{}
	for range 1 + next(6) {
		i := setOfItem(1+next(ids), spot{X: next(256), Y: next(256)}, someText(next(21), next))
		if len(own) > 0 && next(3) > 0 {
			i.Id = own[next(int64(len(own)))].Id
		}
		if next(2) > 0 && (slices.ContainsFunc(own, func(r record) bool { return r.Id == i.Id }) || next(9) == 0) {
			i = cutOf(i.Id)
		}
		if !used[i.Id] {
			b.Items = append(b.Items, i)
		}
		used[i.Id] = true
	}
	return b
}

// ownOf are Records of one Tenant, between those of two others with the same
// Ids.
func ownOf(tenant, count int64) []record {
	var list []record
	for _, other := range []int64{tenant - 1, tenant, tenant + 1} {
		for i := range count {
			list = append(list, record{Tenant: other, Id: 100 + i, At: spot{X: other, Y: i % 256}, Text: fmt.Sprint("of ", other)})
		}
	}
	return list
}

func TestBatchLimits(t *testing.T) {
	if impl.ItSet != 1 || impl.ItCut != 2 || impl.MaxOwn != 20 {
		t.Fatal(impl.ItSet, impl.ItCut, impl.MaxOwn)
	}
}

func TestBatchOkOfRightOnes(t *testing.T) {
	for _, b := range edgeBatches() {
		if !isBatch(b) || !impl.BatchOk(b) {
			t.Fatalf("%v is not right", b)
		}
	}
	next := someRule(150)
	for _, list := range someRecordLists(151) {
		if b := someBatch(list, 99, 200, next); !isBatch(b) || !impl.BatchOk(b) {
			t.Fatalf("%v is not right", b)
		}
	}
}

// Nothing is answered for it, whatever the Records and the Paper are.
func TestWrongBatches(t *testing.T) {
	lists := [][]record{nil, ownOf(3, 20), {{Tenant: 3, Id: 7, At: spot{X: 7}, Text: "a"}}, fullOfAll(), {{}}}
	for _, b := range wrongBatches() {
		if isBatch(b) || impl.BatchOk(b) || len(impl.Ids(b)) != 0 {
			t.Fatalf("%v is right, or has Ids: %v", b, impl.Ids(b))
		}
		for _, list := range lists {
			if got, is := impl.Done(list, b); is || len(got) != 0 {
				t.Fatalf("Done(%v, %v) = %v, %v", list, b, got, is)
			}
			if got := impl.Spots(list, b); len(got) != 0 {
				t.Fatalf("Spots(%v, %v) = %v", list, b, got)
			}
			checkPermitted(t, paperOf(7, 3, wholeClause()), list, b, 0, false)
			checkPermitted(t, paperOf(7, b.Tenant, wholeClause()), list, b, 0, false)
		}
	}
}

// Every list of up to three Items out of some, in any order.
func TestBatchOkOfAllShortLists(t *testing.T) {
	few := []item{setOfItem(1, spot{}, ""), setOfItem(1, spot{X: 1}, "a"), cutOf(1), cutOf(2), setOfItem(3, spot{Y: 9}, "b"), {Kind: 2, Id: 4, Text: "a"}, {Kind: 3, Id: 5}}
	for _, a := range few {
		for _, b := range few {
			for _, c := range few {
				for _, items := range [][]item{{a}, {a, b}, {a, b, c}} {
					one := batchOf(4, items...)
					if got := impl.BatchOk(one); got != isBatch(one) {
						t.Fatalf("BatchOk(%v) = %v", one, got)
					}
				}
			}
		}
	}
}

// Each set of one Tenant's four Ids, by each Batch of one to three Items.
func TestDoneOfAllSmallBatches(t *testing.T) {
	var all []item
	for id := int64(5); id < 9; id++ {
		all = append(all, setOfItem(id, spot{X: id}, "new"), cutOf(id))
	}
	for bits := range 1 << 4 {
		list := []record{{Tenant: 3, Id: 5, Text: "other"}}
		for i := range int64(4) {
			if bits>>i&1 == 1 {
				list = append(list, record{Tenant: 4, Id: 5 + i, At: spot{Y: i}, Text: "old"})
			}
		}
		list = append(list, record{Tenant: 5, Id: 6, Text: "other"})
		for _, a := range all {
			for _, b := range all {
				for _, c := range all {
					for _, items := range [][]item{{a}, {a, b}, {a, b, c}} {
						if one := batchOf(4, items...); isBatch(one) {
							checkDone(t, list, one)
							checkSpots(t, list, one)
						}
					}
				}
			}
		}
	}
}

func TestDoneIsWhatAMapHolds(t *testing.T) {
	next := someRule(152)
	done, not := 0, 0
	for _, list := range rightRecordLists(153) {
		for range 12 {
			if _, is := checkDone(t, list, someBatch(list, 99, 200, next)); is {
				done++
			} else {
				not++
			}
		}
		for _, b := range edgeBatches()[:40] {
			checkDone(t, list, b)
		}
	}
	if done < 100 || not < 100 {
		t.Fatalf("%d were Done, %d not: the rule tells too little", done, not)
	}
}

// A long script of Batches, each on what the last one left.
func TestDoneOverAndOver(t *testing.T) {
	next := someRule(154)
	for _, tenants := range []int64{2, 25, 99} {
		var list []record
		for range 600 {
			list, _ = checkDone(t, list, someBatch(list, tenants, 60, next))
		}
		if len(list) == 0 {
			t.Fatal("nothing is left")
		}
	}
}

// Done of all Items is Set and Cut of each, one after the other.
func TestDoneIsSetAndCutInOrder(t *testing.T) {
	next := someRule(155)
	for _, list := range someRecordLists(156) {
		b := someBatch(list, 99, 200, next)
		got, is := impl.Done(list, b)
		want := list
		all := true
		for _, i := range b.Items {
			var one bool
			if i.Kind == impl.ItSet {
				want, one = impl.Set(want, record{Tenant: b.Tenant, Id: i.Id, At: i.At, Text: i.Text})
			} else {
				want, one = impl.Cut(want, b.Tenant, i.Id)
			}
			all = all && one
		}
		if all = all && len(impl.Of(want, b.Tenant)) <= 20; !all {
			want = list
		}
		if is != all || !impl.Same(got, want) {
			t.Fatalf("Done(%v, %v) = %v, %v, not %v, %v", list, b, got, is, want, all)
		}
	}
}

func TestDoneNamedEdges(t *testing.T) {
	a, b, c := record{Tenant: 1, Id: greatestId, Text: "a"}, record{Tenant: 2, Id: 1, At: spot{X: 9}}, record{Tenant: 99, Id: 1}
	long := strings.Repeat("x", 20)
	for _, x := range []struct {
		list []record
		b    batch
		want []record
		is   bool
	}{
		{nil, batchOf(1, setOfItem(1, spot{}, "")), []record{{Tenant: 1, Id: 1}}, true},
		{nil, batch{Tenant: 99, Seq: greatestId, Items: []item{setOfItem(greatestId, spot{X: 255, Y: 255}, long)}}, []record{{Tenant: 99, Id: greatestId, At: spot{X: 255, Y: 255}, Text: long}}, true},
		{nil, batchOf(1, cutOf(1)), nil, false},
		{[]record{a}, batchOf(1, cutOf(greatestId)), nil, true},
		{[]record{a}, batchOf(1, cutOf(1)), []record{a}, false},
		{[]record{a}, batchOf(2, cutOf(greatestId)), []record{a}, false},
		{[]record{a, b, c}, batchOf(2, setOfItem(1, spot{Y: 5}, "")), []record{a, {Tenant: 2, Id: 1, At: spot{Y: 5}}, c}, true},
		{[]record{a, b, c}, batchOf(2, setOfItem(2, spot{}, "n"), cutOf(1)), []record{a, {Tenant: 2, Id: 2, Text: "n"}, c}, true},
		{[]record{a, b, c}, batchOf(2, cutOf(1), setOfItem(2, spot{}, "n")), []record{a, {Tenant: 2, Id: 2, Text: "n"}, c}, true},
		{[]record{a, b, c}, batchOf(2, setOfItem(2, spot{}, "n"), cutOf(3)), []record{a, b, c}, false},
		{[]record{a, b, c}, batchOf(2, cutOf(3), setOfItem(2, spot{}, "n")), []record{a, b, c}, false},
		{[]record{a, b, c}, batchOf(2, cutOf(1), cutOf(greatestId)), []record{a, b, c}, false},
		{[]record{b, a}, batchOf(2, setOfItem(2, spot{}, "")), nil, false},
		{[]record{b, b}, batchOf(2, cutOf(1)), nil, false},
		{[]record{b, a}, batchOf(2, cutOf(5)), nil, false},
		{[]record{b, a}, batch{}, nil, false},
		{[]record{a, b, c}, batch{Tenant: 2, Items: []item{cutOf(1)}}, nil, false},
		{[]record{a, b, c}, batch{Tenant: 2, Seq: greatestId + 1, Items: []item{cutOf(1)}}, nil, false},
		{[]record{a, b, c}, batchOf(2), nil, false},
	} {
		if got, is := impl.Done(x.list, x.b); is != x.is || !slices.Equal(got, x.want) {
			t.Errorf("Done(%v, %v) = %v, %v, not %v, %v", x.list, x.b, got, is, x.want, x.is)
		}
	}
}

// Wherever the Item stands that can't be done, and whatever the others are:
// every Record is as it was, and without that Item all is done.
func TestDoneWholeOrNothing(t *testing.T) {
	list := ownOf(40, 15)
	for count := 1; count <= 6; count++ {
		for at := range count {
			for kinds := range 1 << count {
				var items []item
				for i := range int64(count) {
					one := setOfItem(100+i, spot{X: 255 - i}, "new")
					if kinds>>i&1 == 1 {
						one = cutOf(100 + i)
					}
					items = append(items, one)
				}
				if got, is := checkDone(t, list, batchOf(40, items...)); !is || slices.Equal(got, list) {
					t.Fatalf("%v was not Done", items)
				}
				items[at] = cutOf(500)
				if got, is := checkDone(t, list, batchOf(40, items...)); is || !impl.Same(got, list) {
					t.Fatalf("%v was Done: %v", items, got)
				}
			}
		}
	}
}

// Of as many as a Tenant may have: what counts is how many it has afterwards,
// of its own.
func TestDoneUpToMaxOwn(t *testing.T) {
	for had := int64(0); had <= 30; had++ {
		list := ownOf(40, had)
		for sets := int64(0); sets <= 6; sets++ {
			for cuts := int64(0); sets+cuts <= 6; cuts++ {
				if sets+cuts == 0 || cuts > had {
					continue
				}
				var added, gone []item
				for i := range sets {
					added = append(added, setOfItem(200+i, spot{X: i}, "new"))
				}
				for i := range cuts {
					gone = append(gone, cutOf(100+had-1-i))
				}
				want := had+sets-cuts <= 20
				for _, items := range [][]item{slices.Concat(added, gone), slices.Concat(gone, added)} {
					got, is := checkDone(t, list, batchOf(40, items...))
					if is != want || is && int64(len(impl.Of(got, 40))) != had+sets-cuts {
						t.Fatalf("of %d Records, by %v: %v, %v", had, items, is, impl.Of(got, 40))
					}
				}
			}
		}
	}
}

// What takes the place of another one makes no more of them; who has too many
// of them can do nothing that leaves it so.
func TestDoneInPlaceAtMaxOwn(t *testing.T) {
	for had := int64(19); had <= 22; had++ {
		list := ownOf(40, had)
		for at := range had {
			if _, is := checkDone(t, list, batchOf(40, setOfItem(100+at, spot{X: 255}, "in its place"))); is != (had <= 20) {
				t.Fatalf("of %d Records, number %d: %v", had, at, is)
			}
		}
	}
	if got, is := checkDone(t, fullOfOne(7), batchOf(7, cutOf(2))); is || len(got) != 400 {
		t.Fatalf("%d Records are left, %v", len(got), is)
	}
	if got, is := checkDone(t, fullOfOne(7)[:26], batchOf(7, cutOf(2), cutOf(4), cutOf(6), cutOf(8), cutOf(10), cutOf(52))); !is || len(got) != 20 {
		t.Fatalf("%d Records are left, %v", len(got), is)
	}
}

// Where there are 400, an ItCut makes room for the ItSets behind it alone.
func TestDoneWithoutRoom(t *testing.T) {
	full := fullOfAll()
	fresh := func(id int64) item { return setOfItem(id, spot{X: id % 256}, "fresh") }
	for _, x := range []struct {
		list  []record
		items []item
		want  bool
	}{
		{full, []item{fresh(20)}, false},
		{full, []item{fresh(7)}, true},
		{full, []item{cutOf(7), fresh(20)}, true},
		{full, []item{fresh(20), cutOf(7)}, false},
		{full, []item{cutOf(7), fresh(20), fresh(21)}, false},
		{full, []item{cutOf(7), fresh(20), fresh(21), cutOf(1)}, false},
		{full, []item{cutOf(7), cutOf(1), fresh(20), fresh(21)}, true},
		{full, []item{cutOf(7), fresh(20), cutOf(1), fresh(21), fresh(50000), fresh(greatestId)}, true},
		{full, []item{cutOf(7), fresh(20), cutOf(1), fresh(21), cutOf(50000), fresh(22)}, true},
		{full, []item{cutOf(7), fresh(20), fresh(1), fresh(50000), fresh(greatestId), fresh(22)}, false},
		{full[:399], []item{fresh(20)}, true},
		{full[:399], []item{fresh(20), fresh(21)}, false},
		{full[:399], []item{fresh(20), cutOf(7), fresh(21)}, true},
		{full[:399], []item{fresh(20), fresh(21), cutOf(7)}, false},
		{full[:394], []item{fresh(20), fresh(21), fresh(22), fresh(23), fresh(24), fresh(25)}, true},
		{full[:395], []item{fresh(20), fresh(21), fresh(22), fresh(23), fresh(24), fresh(25)}, false},
	} {
		for _, tenant := range []int64{1, 30, 97} {
			got, is := checkDone(t, x.list, batchOf(tenant, x.items...))
			if is != x.want || !is && !impl.Same(got, x.list) {
				t.Fatalf("Done of %v of Tenant %d in %d Records: %v", x.items, tenant, len(x.list), is)
			}
		}
	}
}

func TestBatchesInWrongLists(t *testing.T) {
	batches := []batch{batchOf(3, sixItems()...), batchOf(3, setOfItem(7, spot{X: 7}, "")), batchOf(3, cutOf(2)), batchOf(1, cutOf(1)), batchOf(99, cutOf(5)), {}}
	for _, list := range wrongRecordLists() {
		for _, b := range batches {
			if got, is := impl.Done(list, b); is || len(got) != 0 {
				t.Fatalf("Done(%v, %v) = %v, %v", list, b, got, is)
			}
			if got := impl.Spots(list, b); len(got) != 0 {
				t.Fatalf("Spots(%v, %v) = %v", list, b, got)
			}
			checkPermitted(t, paperOf(7, b.Tenant, wholeClause()), list, b, 0, false)
		}
	}
}

func TestSpotsAreToldInOrder(t *testing.T) {
	next := someRule(157)
	for _, list := range rightRecordLists(158) {
		for range 12 {
			checkSpots(t, list, someBatch(list, 99, 200, next))
		}
		for _, b := range edgeBatches()[:40] {
			checkSpots(t, list, b)
		}
	}
}

func TestSpotsNamedEdges(t *testing.T) {
	list := []record{{Tenant: 1, Id: 5, At: spot{X: 1}}, {Tenant: 2, Id: 5, At: spot{X: 9}}, {Tenant: 2, Id: 6}, {Tenant: 2, Id: 7, At: spot{X: 255, Y: 255}}, {Tenant: 3, Id: 8, At: spot{Y: 4}}}
	for _, x := range []struct {
		list []record
		b    batch
		want []spot
	}{
		{nil, batchOf(2, setOfItem(5, spot{X: 8}, "")), []spot{{X: 8}}},
		{nil, batchOf(2, cutOf(5)), nil},
		{list, batchOf(2, cutOf(8)), nil},
		{list, batchOf(2, cutOf(5)), []spot{{X: 9}}},
		{list, batchOf(2, cutOf(6)), []spot{{}}},
		{list, batchOf(1, cutOf(5)), []spot{{X: 1}}},
		{list, batchOf(2, setOfItem(5, spot{X: 8}, "")), []spot{{X: 8}, {X: 9}}},
		{list, batchOf(2, setOfItem(5, spot{X: 10}, "")), []spot{{X: 10}, {X: 9}}},
		{list, batchOf(2, setOfItem(5, spot{X: 9}, "")), []spot{{X: 9}, {X: 9}}},
		{list, batchOf(2, setOfItem(8, spot{}, "")), []spot{{}}},
		{list, batchOf(3, setOfItem(5, spot{X: 9}, "")), []spot{{X: 9}}},
		{list, batchOf(2, setOfItem(7, spot{X: 3}, ""), cutOf(5)), []spot{{X: 3}, {X: 255, Y: 255}, {X: 9}}},
		{list, batchOf(2, cutOf(7), setOfItem(5, spot{X: 3}, "")), []spot{{X: 255, Y: 255}, {X: 3}, {X: 9}}},
		{list, batchOf(2, cutOf(9), setOfItem(10, spot{X: 3}, ""), cutOf(6), cutOf(1)), []spot{{X: 3}, {}}},
		{list, batchOf(2), nil},
		{list, batchOf(2, cutOf(5), cutOf(5)), nil},
		{list, batch{Tenant: 2, Items: []item{cutOf(5)}}, nil},
		{list, batchOf(100, setOfItem(5, spot{}, "")), nil},
		{[]record{list[1], list[0]}, batchOf(2, cutOf(5)), nil},
	} {
		if got := impl.Spots(x.list, x.b); !slices.Equal(got, x.want) {
			t.Errorf("Spots(%v, %v) = %v, not %v", x.list, x.b, got, x.want)
		}
	}
}

// Six Items, each of which has its own Spot and an old one; that what can't be
// Done has Spots all the same.
func TestSpotsOfAllThatAreThere(t *testing.T) {
	list := ownOf(40, 25)
	var items []item
	var want []spot
	for i := range int64(6) {
		items = append(items, setOfItem(124-4*i, spot{X: 200 + i}, ""))
		want = append(want, spot{X: 200 + i}, spot{X: 40, Y: 24 - 4*i})
	}
	if got := impl.Spots(list, batchOf(40, items...)); !slices.Equal(got, want) {
		t.Fatalf("%v, not %v", got, want)
	}
	if _, is := checkDone(t, list, batchOf(40, items...)); is {
		t.Fatal("a Tenant has more than 20")
	}
}

func TestPermittedIsAllOfSpots(t *testing.T) {
	next := someRule(159)
	lists := rightRecordLists(160)
	yes, no := 0, 0
	for i, p := range rightPapers(120, 161) {
		places := spotsBy(p)
		for j := range 12 {
			list := slices.Clone(lists[(i*7+j)%len(lists)])
			for k := range list {
				list[k].At = places[next(int64(len(places)))]
			}
			b := someBatch(list, 99, 200, next)
			if j%4 > 0 {
				b.Tenant = p.Tenant
			}
			for k := range b.Items {
				if b.Items[k].Kind == 1 {
					b.Items[k].At = places[next(int64(len(places)))]
				}
			}
			for _, now := range []int64{0, firstEnd(p) - 1, firstEnd(p)} {
				want := now >= 0 && isPermitted(p, list, b, now)
				checkPermitted(t, p, list, b, now, want)
				if want {
					yes++
				} else {
					no++
				}
			}
		}
	}
	if yes < 100 || no < 100 {
		t.Fatalf("%d are Permitted, %d not: the rule tells too little", yes, no)
	}
}

func TestPermittedNamedEdges(t *testing.T) {
	list := []record{{Tenant: 1, Id: 5, At: spot{X: 200}}, {Tenant: 2, Id: 5, At: spot{X: 9}}}
	grid, two := []cell{{}}, []cell{{Level: 8, X: 8}, {Level: 8, X: 9}}
	both := paperOf(7, 2, clause{Write: two, Until: 9})
	move := batchOf(2, setOfItem(5, spot{X: 8}, ""))
	for _, x := range []struct {
		p    paper
		b    batch
		now  int64
		want bool
	}{
		{both, move, 0, true},
		{both, move, 8, true},
		{both, move, 9, false},
		{both, move, 10, false},
		{both, move, greatestTime, false},
		{both, batchOf(2, cutOf(5)), 0, true},
		{both, batchOf(2, setOfItem(6, spot{X: 8}, "")), 0, true},
		{both, batchOf(2, setOfItem(5, spot{X: 10}, "")), 0, false},
		{both, batchOf(2, setOfItem(6, spot{X: 8, Y: 1}, "")), 0, false},
		{both, batchOf(2, setOfItem(6, spot{X: 8}, ""), setOfItem(7, spot{X: 7}, "")), 0, false},
		{both, batchOf(2, setOfItem(7, spot{X: 7}, ""), setOfItem(6, spot{X: 8}, "")), 0, false},
		{both, batchOf(1, setOfItem(6, spot{X: 8}, "")), 0, false},
		{both, batchOf(3, setOfItem(6, spot{X: 8}, "")), 0, false},
		{paperOf(7, 2, clause{Write: two[:1], Until: 9}), move, 0, false},
		{paperOf(7, 2, clause{Write: two[1:], Until: 9}), move, 0, false},
		{paperOf(7, 2, clause{Write: two[1:], Until: 9}), batchOf(2, cutOf(5)), 0, true},
		{paperOf(7, 2, clause{Write: two[:1], Until: 9}), batchOf(2, cutOf(5)), 0, false},
		{paperOf(7, 2, clause{Read: grid, Until: 9}), move, 0, false},
		{paperOf(7, 2, clause{Read: grid, Write: two[:1], Until: 9}), move, 0, false},
		{paperOf(7, 2, clause{Read: two[:1], Write: grid, Until: 9}), move, 0, true},
		{paperOf(7, 2, wholeClause(), clause{Write: two, Until: 9}), move, 8, true},
		{paperOf(7, 2, wholeClause(), clause{Write: two, Until: 9}), move, 9, false},
		{paperOf(7, 2, clause{Write: two, Until: 9}, wholeClause()), move, 9, false},
		{paperOf(7, 2, wholeClause(), clause{Write: two[:1], Until: 9}, wholeClause()), move, 0, false},
		{paperOf(7, 2, wholeClause()), move, greatestTime - 1, true},
		{paperOf(7, 2, wholeClause()), move, greatestTime, false},
		{paperOf(7, 1, wholeClause()), move, 0, false},
		{paperOf(7, 3, wholeClause()), move, 0, false},
		{paperOf(7, 99, wholeClause()), batchOf(99, setOfItem(5, spot{}, "")), 0, true},
		{paperOf(7, 1, wholeClause()), batchOf(1, cutOf(5)), 0, true},
		{paper{Tenant: 2, Clauses: []clause{wholeClause()}, Tag: 1}, move, 0, true},
	} {
		if got := impl.Permitted(x.p, list, x.b, x.now); got != x.want {
			t.Errorf("Permitted(%v, .., %v, %d) = %v", x.p, x.b, x.now, got)
		}
	}
}

// A Batch without Spots asks for none; but the Paper must be right, have its
// Tenant, and now be a time.
func TestPermittedWithoutSpots(t *testing.T) {
	none := batchOf(3, cutOf(5), cutOf(6))
	list := []record{{Tenant: 2, Id: 5}, {Tenant: 3, Id: 7}}
	checkPermitted(t, paperOf(7, 3, wholeClause()), list, none, 0, true)
	checkPermitted(t, paperOf(7, 3, clause{Until: 9}), list, none, 0, true)
	checkPermitted(t, paperOf(7, 2, wholeClause()), list, none, 0, false)
	for _, now := range wrongTimes() {
		checkPermitted(t, paperOf(7, 3, wholeClause()), list, none, now, false)
	}
}

func TestPermittedOfWrongPapersAndTimes(t *testing.T) {
	list := []record{{Tenant: 3, Id: 5, At: spot{X: 3}}}
	for _, b := range []batch{batchOf(3, setOfItem(6, spot{}, "")), batchOf(3, cutOf(5)), batchOf(3, cutOf(6)), batchOf(3, setOfItem(5, spot{X: 3}, ""))} {
		for _, p := range wrongPapers() {
			checkPermitted(t, p, list, b, 0, false)
			own := b
			own.Tenant = p.Tenant
			checkPermitted(t, p, list, own, 0, false)
		}
		for _, now := range wrongTimes() {
			checkPermitted(t, paperOf(7, 3, wholeClause()), list, b, now, false)
		}
	}
}

func TestPermittedNarrowedIsNoMore(t *testing.T) {
	next := someRule(162)
	papers := rightPapers(60, 163)
	for i, list := range rightRecordLists(164) {
		p := papers[i%len(papers)]
		if len(p.Clauses) == 6 {
			continue
		}
		narrow := checkNarrowed(t, p, someClause(spot{X: next(256), Y: next(256)}, next))
		for range 10 {
			b := someBatch(list, 99, 200, next)
			b.Tenant = p.Tenant
			if impl.Permitted(narrow, list, b, 0) && !impl.Permitted(p, list, b, 0) {
				t.Fatalf("%v is Permitted by %v, not by %v", b, narrow, p)
			}
		}
	}
}

func TestIdsRise(t *testing.T) {
	next := someRule(165)
	batches := edgeBatches()
	for _, list := range someRecordLists(166) {
		batches = append(batches, someBatch(list, 99, 20, next), someBatch(list, 99, greatestId, next))
	}
	for _, b := range batches {
		if got := impl.Ids(b); !slices.Equal(got, idsTold(b)) {
			t.Fatalf("Ids(%v) = %v", b, got)
		}
	}
	if got := impl.Ids(batchOf(3, sixItems()...)); !slices.Equal(got, []int64{1, 2, 9, 10, greatestId - 1, greatestId}) {
		t.Fatal(got)
	}
}

// All orders of four Items are of the same Ids.
func TestIdsOfAllOrders(t *testing.T) {
	ids := []int64{9, 10, 100, 1000}
	for _, a := range ids {
		for _, b := range ids {
			for _, c := range ids {
				for _, d := range ids {
					one := batchOf(3, cutOf(a), setOfItem(b, spot{}, ""), cutOf(c), setOfItem(d, spot{}, "a"))
					if got := impl.Ids(one); isBatch(one) && !slices.Equal(got, ids) || !isBatch(one) && len(got) != 0 {
						t.Fatalf("Ids(%v) = %v", one, got)
					}
				}
			}
		}
	}
}

// roomyBatch is a copy with room behind its Items, in which something stands.
func roomyBatch(b batch) batch {
	items := append(slices.Clone(b.Items), setOfItem(77, spot{X: 77}, "room"), cutOf(78), item{})
	return batch{Tenant: b.Tenant, Seq: b.Seq, Items: items[:len(b.Items)]}
}

func isSameBatch(b, was batch) bool {
	room := roomyBatch(was).Items
	return b.Tenant == was.Tenant && b.Seq == was.Seq && slices.Equal(b.Items, was.Items) && slices.Equal(b.Items[:len(b.Items)+3], room[:len(room)+3])
}

// batchCases are Records and Batches, right and wrong, that can be Done and
// that can't.
func batchCases(seed uint32) ([][]record, []batch) {
	next := someRule(seed)
	var lists [][]record
	var batches []batch
	for _, list := range rightRecordLists(seed + 1) {
		for range 3 {
			lists, batches = append(lists, list), append(batches, someBatch(list, 99, 200, next))
		}
	}
	some := someRecordLists(seed + 2)
	for i, b := range wrongBatches() {
		lists, batches = append(lists, some[i%9]), append(batches, b)
	}
	for _, list := range wrongRecordLists()[:60] {
		lists, batches = append(lists, list), append(batches, batchOf(3, sixItems()...))
	}
	return lists, batches
}

func TestBatchArgumentsStay(t *testing.T) {
	papers := slices.Concat(rightPapers(40, 170), wrongPapers()[:40])
	lists, batches := batchCases(171)
	for i, was := range lists {
		list, b, p := roomyRecords(was), roomyBatch(batches[i]), roomyPaper(papers[i%len(papers)])
		impl.BatchOk(b)
		made, _ := impl.Done(list, b)
		wipe(made)
		wipe(impl.Spots(list, b))
		impl.Permitted(p, list, b, 0)
		wipe(impl.Ids(b))
		if !areUntouched(list, was) {
			t.Fatalf("%v was changed, or the room behind it", was)
		}
		if !isSameBatch(b, batches[i]) {
			t.Fatalf("%v was changed, or the room behind it", batches[i])
		}
		isAsMade(t, p, papers[i%len(papers)], roomyClause(clause{}), clause{})
	}
}

// What is written into an argument later, or into another answer, is in none.
func TestBatchAnswersAreNew(t *testing.T) {
	lists, batches := batchCases(174)
	for i, was := range lists {
		list, b := roomyRecords(was), roomyBatch(batches[i])
		made, is := impl.Done(list, b)
		spots, ids := impl.Spots(list, b), impl.Ids(b)
		wantMade, wantSpots, wantIds := slices.Clone(made), slices.Clone(spots), slices.Clone(ids)
		again, _ := impl.Done(list, b)
		wipe(again)
		wipe(impl.Spots(list, b))
		wipe(impl.Ids(b))
		wipe(list)
		wipe(b.Items)
		if !slices.Equal(made, wantMade) || !slices.Equal(spots, wantSpots) || !slices.Equal(ids, wantIds) {
			t.Fatalf("an answer of %v and %v (%v) shares its memory", was, batches[i], is)
		}
	}
}

// Nothing of the memory that an empty list was cut from is answered.
func TestDoneAsItIsOfAnEmptyList(t *testing.T) {
	room := []record{{Tenant: 7, Id: 7}, {Tenant: 8, Id: 8}}
	got, is := impl.Done(room[:0], batchOf(3, cutOf(5)))
	if is || len(got) != 0 {
		t.Fatal(got, is)
	}
	wipe(got)
	if room[0].Tenant != 7 || room[1].Tenant != 8 {
		t.Fatalf("%v was changed", room)
	}
}

// Two who go on from one list don't know of each other.
func TestTwoBatchesInOneList(t *testing.T) {
	base := ownOf(40, 10)
	first, one := checkDone(t, base, batchOf(40, setOfItem(300, spot{}, "first"), cutOf(100)))
	second, two := checkDone(t, base, batchOf(40, setOfItem(300, spot{}, "second"), cutOf(101)))
	third, three := checkDone(t, base, batchOf(40, setOfItem(300, spot{}, "third"), cutOf(300+1)))
	if !one || !two || three || first[19].Text != "first" || second[19].Text != "second" || !slices.Equal(third, ownOf(40, 10)) || !slices.Equal(base, third) {
		t.Fatalf("%v, %v, %v", first, second, third)
	}
}

// What was asked ahead of it, or is asked beside it, or gave up, leaves nothing
// behind.
func TestBatchesHangOnTheirArgumentsAlone(t *testing.T) {
	lists, batches := batchCases(177)
	var all sync.WaitGroup
	for worker := range 8 {
		all.Go(func() {
			for i := range lists {
				n := (i * (2*worker + 1)) % len(lists)
				impl.Done(nil, batchOf(3, cutOf(5)))
				made, is := impl.Done(lists[n], batches[n])
				again, still := impl.Done(lists[n], batches[n])
				if is != still || !slices.Equal(made, again) {
					t.Errorf("Done(%v, %v) = %v, %v, then %v, %v", lists[n], batches[n], made, is, again, still)
				}
			}
		})
	}
	all.Wait()
}

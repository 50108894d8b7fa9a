package tests

import (
	"cmp"
	"fmt"
	"math"
	"slices"
	"strings"
	"sync"
	"testing"

	"loop.example/g00301/impl"
)

type record = impl.Record

const greatestId = 100000

// owner is what no two Records have both alike.
type owner struct{ tenant, id int64 }

func ownerOf(r record) owner { return owner{r.Tenant, r.Id} }

// turnOf is a number that stands among numbers as a right Record does among
// Records.
func turnOf(r record) int64 { return r.Tenant*1000000 + r.Id }

func heldIn(list []record) map[owner]record {
	held := map[owner]record{}
	for _, r := range list {
		held[ownerOf(r)] = r
	}
	return held
}

func inTurns(held map[owner]record) []record {
	var list []record
	for _, r := range held {
		list = append(list, r)
	}
	slices.SortFunc(list, func(a, b record) int { return cmp.Compare(turnOf(a), turnOf(b)) })
	return list
}

// isRecord is the document's words of one Record.
func isRecord(r record) bool {
	return r.Tenant >= 1 && r.Tenant <= 99 && r.Id >= 1 && r.Id <= greatestId && isIn(wholeRect(), r.At) && len(r.Text) <= 20
}

func areRecords(list []record) bool {
	for i, r := range list {
		if !isRecord(r) || i > 0 && turnOf(list[i-1]) >= turnOf(r) {
			return false
		}
	}
	return len(list) <= 400
}

func ofTenant(list []record, tenant int64) []record {
	var own []record
	for _, r := range list {
		if r.Tenant == tenant {
			own = append(own, r)
		}
	}
	return own
}

func idsInCells(list []record, tenant int64, places []cell) []int64 {
	var ids []int64
	for _, r := range ofTenant(list, tenant) {
		if slices.ContainsFunc(places, func(c cell) bool { return isInCell(c, r.At) }) {
			ids = append(ids, r.Id)
		}
	}
	return ids
}

func rightTexts() []string {
	return []string{"", "a", " ", "\x00", "\xff\xfe", "ä", strings.Repeat("x", 19), strings.Repeat("x", 20), strings.Repeat("\x00", 20), allBytes()[236:], strings.Repeat("ä", 10)}
}

func wrongTexts() []string {
	return []string{strings.Repeat("x", 21), strings.Repeat("\x00", 21), allBytes(), strings.Repeat("ä", 11), strings.Repeat("ä", 10) + "x", strings.Repeat("x", 100000)}
}

func rightIds() []int64 { return []int64{1, 2, 9, 10, 50000, greatestId - 1, greatestId} }

func wrongIds() []int64 {
	return []int64{math.MinInt64, -greatestId, -1, 0, greatestId + 1, greatestId + 2, 1 << 32, 1<<32 + 1, math.MaxInt64}
}

// edgeRecords are right ones at the edges that the document names.
func edgeRecords() []record {
	var list []record
	for _, tenant := range []int64{1, 2, 9, 10, 98, 99} {
		for i, id := range rightIds() {
			list = append(list, record{Tenant: tenant, Id: id, At: gridCorners()[i%4], Text: rightTexts()[(i+int(tenant))%len(rightTexts())]})
		}
	}
	for i, text := range rightTexts() {
		list = append(list, record{Tenant: 50, Id: int64(i) + 1, At: spot{X: 7, Y: 9}, Text: text})
	}
	for i, s := range gridCorners() {
		list = append(list, record{Tenant: 51, Id: int64(i) + 1, At: s})
	}
	return list
}

// wrongRecords have one field that is not right, or all.
func wrongRecords() []record {
	right := record{Tenant: 3, Id: 7, At: spot{X: 7, Y: 9}, Text: "abc"}
	list := []record{{}, {Tenant: 100, Id: greatestId + 1, At: spot{X: 256, Y: -1}, Text: strings.Repeat("x", 21)}}
	for _, tenant := range wrongTenants() {
		list = append(list, record{Tenant: tenant, Id: right.Id, At: right.At, Text: right.Text})
	}
	for _, id := range wrongIds() {
		list = append(list, record{Tenant: right.Tenant, Id: id, At: right.At, Text: right.Text})
	}
	for _, s := range wrongSpots() {
		list = append(list, record{Tenant: right.Tenant, Id: right.Id, At: s, Text: right.Text})
	}
	for _, text := range wrongTexts() {
		list = append(list, record{Tenant: right.Tenant, Id: right.Id, At: right.At, Text: text})
	}
	return list
}

// fullOfOne are 400 of one Tenant, with room for an Id ahead of each and behind
// the last.
func fullOfOne(tenant int64) []record {
	var list []record
	for i := range int64(400) {
		list = append(list, record{Tenant: tenant, Id: 2*i + 2, At: spot{X: i % 256, Y: i / 2}, Text: fmt.Sprint(i)})
	}
	return list
}

// fullOfAll are 400 of all Tenants, four of each and eight of one.
func fullOfAll() []record {
	held := map[owner]record{}
	for i := range int64(99) {
		for _, id := range []int64{1, 7, 50000, greatestId} {
			held[owner{i + 1, id}] = record{Tenant: i + 1, Id: id, At: spot{X: (37*i + id) % 256, Y: 2 * i}, Text: fmt.Sprint("of ", i+1)}
		}
	}
	for _, id := range []int64{2, 3, 4, 5} {
		held[owner{50, id}] = record{Tenant: 50, Id: id, At: spot{X: 255, Y: id}}
	}
	return inTurns(held)
}

// someRecord is of few Tenants and Ids, so that there is one of both in many
// lists already.
func someRecord(tenants, ids int64, next func(below int64) int64) record {
	return record{Tenant: 1 + next(tenants), Id: 1 + next(ids), At: spot{X: next(256), Y: next(256)}, Text: someText(next(21), next)}
}

func someRecords(count int, tenants, ids int64, next func(below int64) int64) []record {
	held := map[owner]record{}
	for len(held) < count {
		r := someRecord(tenants, ids, next)
		held[ownerOf(r)] = r
	}
	return inTurns(held)
}

// someRecordLists are Records by a fixed rule, from none to 400.
func someRecordLists(seed uint32) [][]record {
	next := someRule(seed)
	var all [][]record
	for _, count := range []int{0, 1, 2, 3, 4, 5, 8, 13, 20, 21, 50, 100, 255, 256, 257, 398, 399, 400} {
		all = append(all, someRecords(count, 99, greatestId, next), someRecords(count, 3, 200, next), someRecords(count, 99, 5, next))
	}
	return all
}

func edgeRecordLists() [][]record {
	edges := inTurns(heldIn(edgeRecords()))
	all := [][]record{nil, {}, edges, fullOfOne(1), fullOfOne(50), fullOfOne(99), fullOfAll(), fullOfAll()[:399], fullOfAll()[1:]}
	for _, r := range edgeRecords() {
		all = append(all, []record{r})
	}
	return append(all, []record{{Tenant: 1, Id: greatestId}, {Tenant: 2, Id: 1}}, []record{{Tenant: 9, Id: 10}, {Tenant: 10, Id: 9}}, []record{{Tenant: 9, Id: 9}, {Tenant: 9, Id: 10}})
}

func rightRecordLists(seed uint32) [][]record {
	return append(edgeRecordLists(), someRecordLists(seed)...)
}

// spoiledAt puts a wrong Record into a right list where it would have to stand,
// as far as it can stand anywhere.
func spoiledAt(list []record, r record) []record {
	own := slices.DeleteFunc(slices.Clone(list), func(other record) bool { return ownerOf(other) == ownerOf(r) })
	at := slices.IndexFunc(own, func(other record) bool {
		return other.Tenant > r.Tenant || other.Tenant == r.Tenant && other.Id > r.Id
	})
	if at < 0 {
		at = len(own)
	}
	return slices.Insert(own, at, r)
}

// disordered are lists of right Records that don't rise.
func disordered() [][]record {
	all := [][]record{
		{{Tenant: 2, Id: 1}, {Tenant: 1, Id: 1}}, {{Tenant: 1, Id: 2}, {Tenant: 1, Id: 1}}, {{Tenant: 2, Id: 1}, {Tenant: 1, Id: 2}},
		{{Tenant: 10, Id: 1}, {Tenant: 9, Id: 1}}, {{Tenant: 1, Id: 10}, {Tenant: 1, Id: 9}}, {{Tenant: 1, Id: 1}, {Tenant: 1, Id: 1}},
		{{Tenant: 99, Id: greatestId}, {Tenant: 99, Id: greatestId}}, {{Tenant: 1, Id: 1, Text: "a"}, {Tenant: 1, Id: 1, Text: "b"}},
		{{Tenant: 1, Id: 1, At: spot{X: 1}}, {Tenant: 1, Id: 1, At: spot{X: 2}}}, {{Tenant: 1, Id: 1}, {Tenant: 2, Id: 1}, {Tenant: 1, Id: 2}},
		{{Tenant: 1, Id: 1}, {Tenant: 2, Id: 1}, {Tenant: 1, Id: 1}}, {{Tenant: 1, Id: 5}, {Tenant: 2, Id: 5}, {Tenant: 1, Id: 7}, {Tenant: 2, Id: 7}},
	}
	for _, list := range [][]record{fullOfAll(), fullOfOne(7), inTurns(heldIn(edgeRecords())), fullOfOne(3)[:17]} {
		last := len(list) - 1
		for _, at := range []int{0, 1, last / 2, last - 1} {
			turned, twice := slices.Clone(list), slices.Clone(list)
			turned[at], turned[at+1] = list[at+1], list[at]
			twice[at+1] = record{Tenant: list[at].Tenant, Id: list[at].Id, Text: "again"}
			all = append(all, turned, twice)
		}
		ends, back := slices.Clone(list), slices.Clone(list)
		ends[0], ends[last] = list[last], list[0]
		slices.Reverse(back)
		all = append(all, ends, back)
	}
	return all
}

func tooManyRecords() [][]record {
	one := append(fullOfOne(7), record{Tenant: 7, Id: 802})
	return [][]record{
		one, append(fullOfAll(), record{Tenant: 99, Id: greatestId, Text: "again"}), append([]record{{Tenant: 1, Id: 1}}, fullOfOne(99)...),
		append(fullOfOne(1), record{Tenant: 99, Id: greatestId}), slices.Concat(fullOfOne(1), fullOfOne(2)), make([]record, 401),
		someRecords(401, 99, greatestId, someRule(130)), someRecords(402, 3, 200, someRule(131)),
	}
}

func wrongRecordLists() [][]record {
	all := append(disordered(), tooManyRecords()...)
	for _, r := range wrongRecords() {
		all = append(all, []record{r}, spoiledAt(fullOfOne(3)[:17], r), spoiledAt(fullOfAll()[:399], r), append(fullOfOne(2)[:9:9], r))
	}
	return all
}

// checkMade holds what Set or Cut answered against what must be held now.
func checkMade(t *testing.T, what string, of any, got []record, is bool, held map[owner]record, want bool) {
	t.Helper()
	if list := inTurns(held); is != want || !slices.Equal(got, list) {
		t.Fatalf("%s of %v = %v, %v, not %v, %v", what, of, got, is, list, want)
	}
	if !impl.RecordsOk(got) {
		t.Fatalf("%s of %v = %v is not RecordsOk", what, of, got)
	}
}

func checkSet(t *testing.T, list []record, r record) []record {
	t.Helper()
	held := heldIn(list)
	_, had := held[ownerOf(r)]
	can := isRecord(r) && (had || len(list) < 400)
	if can {
		held[ownerOf(r)] = r
	}
	got, is := impl.Set(list, r)
	checkMade(t, "Set", r, got, is, held, can)
	return got
}

func checkCut(t *testing.T, list []record, tenant, id int64) []record {
	t.Helper()
	held := heldIn(list)
	_, had := held[owner{tenant, id}]
	delete(held, owner{tenant, id})
	got, is := impl.Cut(list, tenant, id)
	checkMade(t, "Cut", owner{tenant, id}, got, is, held, had)
	return got
}

// checkOthers asks for all Records but the one of this Tenant and Id, of every
// Tenant, by Of.
func checkOthers(t *testing.T, was, is []record, of owner) {
	t.Helper()
	for tenant := int64(1); tenant <= 99; tenant++ {
		others := func(list []record) []record {
			return slices.DeleteFunc(impl.Of(list, tenant), func(r record) bool { return ownerOf(r) == of })
		}
		if a, b := others(was), others(is); !slices.Equal(a, b) {
			t.Fatalf("of Tenant %d, but for %v, were %v, are %v", tenant, of, a, b)
		}
	}
}

// checkNoRecords asks for the fixed answers of what are no Records.
func checkNoRecords(t *testing.T, list []record) {
	t.Helper()
	if impl.RecordsOk(list) || impl.Same(list, list) || impl.Same(list, slices.Clone(list)) || impl.Same(nil, list) || impl.Same(list, nil) {
		t.Fatalf("%v are right, or Same", list)
	}
	owners := []owner{{3, 7}, {1, 1}, {99, greatestId}, {0, 0}, {100, greatestId + 1}}
	if len(list) > 0 {
		owners = append(owners, ownerOf(list[0]), ownerOf(list[len(list)-1]))
	}
	for _, o := range owners {
		for _, r := range []record{{Tenant: o.tenant, Id: o.id}, {Tenant: o.tenant, Id: o.id, At: spot{X: 256}}} {
			if got, is := impl.Set(list, r); is || len(got) != 0 {
				t.Fatalf("Set(%v, %v) = %v, %v", list, r, got, is)
			}
		}
		if got, is := impl.Cut(list, o.tenant, o.id); is || len(got) != 0 {
			t.Fatalf("Cut(%v, %d, %d) = %v, %v", list, o.tenant, o.id, got, is)
		}
		if own, ids := impl.Of(list, o.tenant), impl.InCells(list, o.tenant, []cell{{}}); len(own) != 0 || len(ids) != 0 {
			t.Fatalf("of %v: Of %v, InCells %v", list, own, ids)
		}
	}
}

func TestRecordLimits(t *testing.T) {
	if impl.MaxRecords != 400 || impl.MaxId != greatestId {
		t.Fatal(impl.MaxRecords, impl.MaxId)
	}
}

func TestRecordsOkOfRightOnes(t *testing.T) {
	for _, list := range rightRecordLists(132) {
		if !areRecords(list) || !impl.RecordsOk(list) {
			t.Fatalf("%d Records are not right: %v", len(list), list)
		}
	}
}

func TestWrongRecordLists(t *testing.T) {
	for _, list := range wrongRecordLists() {
		if areRecords(list) {
			t.Fatalf("%v are right", list)
		}
		checkNoRecords(t, list)
	}
}

// Every list of up to three out of six Records, in any order.
func TestRecordsOkOfAllShortLists(t *testing.T) {
	few := []record{{Tenant: 1, Id: 1}, {Tenant: 1, Id: 2}, {Tenant: 2, Id: 1}, {Tenant: 2, Id: 2, Text: "a"}, {Tenant: 2, Id: 2, Text: "b"}, {Tenant: 0, Id: 3}}
	for _, a := range few {
		for _, b := range few {
			for _, c := range few {
				for _, list := range [][]record{{a}, {a, b}, {a, b, c}} {
					if got := impl.RecordsOk(list); got != areRecords(list) {
						t.Fatalf("RecordsOk(%v) = %v", list, got)
					}
				}
			}
		}
	}
}

// Each set of two Tenants' three Ids, and each of these, and one more, is Set
// and Cut.
func TestSetAndCutOfAllSmallSets(t *testing.T) {
	var all []record
	for i := range int64(6) {
		all = append(all, record{Tenant: 4 + i/3, Id: 5 + i%3, At: spot{X: i}, Text: "old"})
	}
	for bits := range 1 << len(all) {
		var list []record
		for i, r := range all {
			if bits>>i&1 == 1 {
				list = append(list, r)
			}
		}
		for tenant := int64(3); tenant <= 6; tenant++ {
			for id := int64(4); id <= 8; id++ {
				made := checkSet(t, list, record{Tenant: tenant, Id: id, At: spot{Y: 9}, Text: "new"})
				checkOthers(t, list, made, owner{tenant, id})
				if cut := checkCut(t, list, tenant, id); !slices.Equal(checkCut(t, made, tenant, id), cut) {
					t.Fatalf("%v was Set in %v and Cut again", owner{tenant, id}, list)
				}
			}
		}
	}
}

func TestSetAndCutChangeOneOfOneTenant(t *testing.T) {
	next := someRule(133)
	for _, list := range rightRecordLists(134) {
		some := []record{{Tenant: 1, Id: 1, Text: "new"}, {Tenant: 99, Id: greatestId, Text: "new"}, someRecord(3, 200, next), someRecord(99, 5, next)}
		for range min(3, len(list)) {
			there := list[next(int64(len(list)))]
			some = append(some, record{Tenant: there.Tenant, Id: there.Id, Text: "new"}, record{Tenant: 100 - there.Tenant, Id: there.Id, Text: "new"}, there)
		}
		for _, r := range some {
			checkOthers(t, list, checkSet(t, list, r), ownerOf(r))
			checkOthers(t, list, checkCut(t, list, r.Tenant, r.Id), ownerOf(r))
		}
	}
}

// What was Set is there, what was Cut is not; what is Set once more stays.
func TestWhatIsSetIsThereAndWhatIsCutIsNot(t *testing.T) {
	for _, list := range [][]record{nil, fullOfAll()[:399], fullOfOne(50)[:20], inTurns(heldIn(edgeRecords()))} {
		for _, r := range edgeRecords() {
			made := checkSet(t, list, r)
			if !slices.Contains(impl.Of(made, r.Tenant), r) || !slices.Contains(impl.InCells(made, r.Tenant, []cell{{}}), r.Id) {
				t.Fatalf("%v is not there", r)
			}
			if again := checkSet(t, made, r); !impl.Same(again, made) {
				t.Fatalf("%v is Set twice: %v", r, again)
			}
			gone := checkCut(t, made, r.Tenant, r.Id)
			if slices.Contains(impl.InCells(gone, r.Tenant, []cell{{}}), r.Id) {
				t.Fatalf("%v is there still", r)
			}
			if again, is := impl.Cut(gone, r.Tenant, r.Id); is || !impl.Same(again, gone) {
				t.Fatalf("%v is Cut twice: %v", r, again)
			}
			if back := checkSet(t, gone, r); !impl.Same(back, made) {
				t.Fatalf("%v was Cut and Set: %v", r, back)
			}
		}
	}
}

func TestSetNamedEdges(t *testing.T) {
	a, b, c := record{Tenant: 1, Id: greatestId}, record{Tenant: 2, Id: 1, At: spot{X: 255, Y: 255}}, record{Tenant: 99, Id: 1, Text: strings.Repeat("z", 20)}
	other := record{Tenant: 2, Id: 1, Text: "other"}
	long := record{Tenant: 2, Id: 1, Text: strings.Repeat("z", 21)}
	for _, x := range []struct {
		list []record
		r    record
		want []record
		is   bool
	}{
		{nil, a, []record{a}, true},
		{[]record{}, b, []record{b}, true},
		{nil, long, nil, false},
		{nil, record{}, nil, false},
		{[]record{b}, a, []record{a, b}, true},
		{[]record{a}, b, []record{a, b}, true},
		{[]record{a, c}, b, []record{a, b, c}, true},
		{[]record{a, b, c}, b, []record{a, b, c}, true},
		{[]record{a, b, c}, other, []record{a, other, c}, true},
		{[]record{a, b, c}, long, []record{a, b, c}, false},
		{[]record{a, b, c}, record{Tenant: 2, Id: 1, At: spot{X: 256}}, []record{a, b, c}, false},
		{[]record{a, b, c}, record{Tenant: 2}, []record{a, b, c}, false},
		{[]record{a, b, c}, record{Id: 1}, []record{a, b, c}, false},
		{[]record{b, a}, c, nil, false},
		{[]record{b, b}, c, nil, false},
		{[]record{b, other}, other, nil, false},
		{[]record{a, long}, b, nil, false},
		{[]record{b, a}, long, nil, false},
	} {
		if got, is := impl.Set(x.list, x.r); is != x.is || !slices.Equal(got, x.want) {
			t.Errorf("Set(%v, %v) = %v, %v, not %v, %v", x.list, x.r, got, is, x.want, x.is)
		}
	}
}

func TestCutNamedEdges(t *testing.T) {
	a, b, c := record{Tenant: 1, Id: greatestId, Text: "a"}, record{Tenant: 2, Id: 1}, record{Tenant: 99, Id: 1}
	for _, x := range []struct {
		list       []record
		tenant, id int64
		want       []record
		is         bool
	}{
		{nil, 1, 1, nil, false},
		{[]record{a}, 1, greatestId, nil, true},
		{[]record{a}, 1, 1, []record{a}, false},
		{[]record{a}, 2, greatestId, []record{a}, false},
		{[]record{a, b, c}, 1, greatestId, []record{b, c}, true},
		{[]record{a, b, c}, 2, 1, []record{a, c}, true},
		{[]record{a, b, c}, 99, 1, []record{a, b}, true},
		{[]record{a, b, c}, 98, 1, []record{a, b, c}, false},
		{[]record{a, b, c}, 0, 1, []record{a, b, c}, false},
		{[]record{a, b, c}, 100, 1, []record{a, b, c}, false},
		{[]record{a, b, c}, 2, 0, []record{a, b, c}, false},
		{[]record{a, b, c}, 1, greatestId + 1, []record{a, b, c}, false},
		{[]record{b, a}, 1, greatestId, nil, false},
		{[]record{b, b}, 2, 1, nil, false},
		{[]record{{}}, 0, 0, nil, false},
	} {
		if got, is := impl.Cut(x.list, x.tenant, x.id); is != x.is || !slices.Equal(got, x.want) {
			t.Errorf("Cut(%v, %d, %d) = %v, %v, not %v, %v", x.list, x.tenant, x.id, got, is, x.want, x.is)
		}
	}
}

// Of 400 each can be put in the place of what has its Tenant and Id, and no
// other one; where one of them is Cut there is room for any.
func TestSetWithoutRoom(t *testing.T) {
	for _, list := range [][]record{fullOfAll(), fullOfOne(1), fullOfOne(99)} {
		for i, r := range list {
			if made := checkSet(t, list, record{Tenant: r.Tenant, Id: r.Id, At: spot{X: 255 - r.At.X}, Text: "in its place"}); len(made) != 400 {
				t.Fatalf("%d Records", len(made))
			}
			fresh := record{Tenant: r.Tenant, Id: r.Id%greatestId + 1, Text: "fresh"}
			if i%7 > 0 || slices.ContainsFunc(list, func(other record) bool { return ownerOf(other) == ownerOf(fresh) }) {
				continue
			}
			if got, is := impl.Set(list, fresh); is || !slices.Equal(got, list) {
				t.Fatalf("%v was Set without room: %v, %v", fresh, got, is)
			}
			if made := checkSet(t, checkCut(t, list, r.Tenant, r.Id), fresh); len(made) != 400 || !slices.Contains(made, fresh) {
				t.Fatalf("%v was not Set where there was room", fresh)
			}
		}
	}
}

// Also where one with its Tenant and Id is there, and where there is no room.
func TestSetOfWrongRecords(t *testing.T) {
	there := fullOfOne(3)
	there[3].Id = 7
	for _, list := range [][]record{nil, {{Tenant: 3, Id: 7, Text: "there"}}, there, there[:399], fullOfAll(), inTurns(heldIn(edgeRecords()))} {
		for _, r := range wrongRecords() {
			if got, is := impl.Set(list, r); is || !slices.Equal(got, list) {
				t.Fatalf("Set(%v, %v) = %v, %v", list, r, got, is)
			}
		}
	}
}

func TestCutOfWrongOwners(t *testing.T) {
	for _, list := range edgeRecordLists() {
		for _, tenant := range wrongTenants() {
			if got, is := impl.Cut(list, tenant, 1); is || !slices.Equal(got, list) {
				t.Fatalf("Cut(%v, %d, 1) = %v, %v", list, tenant, got, is)
			}
		}
		for _, id := range wrongIds() {
			for _, tenant := range []int64{0, 1, 50, 99, 100} {
				if got, is := impl.Cut(list, tenant, id); is || !slices.Equal(got, list) {
					t.Fatalf("Cut(%v, %d, %d) = %v, %v", list, tenant, id, got, is)
				}
			}
		}
	}
}

// A long script of Sets and Cuts, held against a map.
func TestSetAndCutOverAndOver(t *testing.T) {
	next := someRule(135)
	for _, ids := range []int64{3, 7, greatestId} {
		var list []record
		for i := range 1200 {
			r := someRecord(99, ids, next)
			if next(4) == 0 && len(list) > 0 {
				r = list[next(int64(len(list)))]
			}
			if next(3) == 0 || i > 900 && next(2) == 0 {
				list = checkCut(t, list, r.Tenant, r.Id)
			} else {
				r.Text = someText(next(23), next)
				list = checkSet(t, list, r)
			}
		}
	}
}

// In whatever order they are Set, they are the same.
func TestSetInAnyOrder(t *testing.T) {
	next := someRule(136)
	for _, want := range [][]record{fullOfAll(), fullOfOne(7), someRecords(200, 3, 200, next)} {
		for range 2 {
			var list []record
			left := slices.Clone(want)
			for len(left) > 0 {
				at := int(next(int64(len(left))))
				made, is := impl.Set(list, left[at])
				if !is {
					t.Fatalf("%v was not Set", left[at])
				}
				list, left = made, slices.Delete(left, at, at+1)
			}
			if !slices.Equal(list, want) || !impl.Same(list, want) {
				t.Fatalf("%v, not %v", list, want)
			}
		}
	}
}

// Each is of one Tenant: those of all, one after the other, are the list.
func TestOfTellsThoseOfOneTenant(t *testing.T) {
	for _, list := range rightRecordLists(137) {
		var all []record
		for tenant := int64(1); tenant <= 99; tenant++ {
			own := impl.Of(list, tenant)
			if !slices.Equal(own, ofTenant(list, tenant)) || !impl.RecordsOk(own) {
				t.Fatalf("Of(%v, %d) = %v", list, tenant, own)
			}
			all = append(all, own...)
		}
		if !slices.Equal(all, list) {
			t.Fatalf("of all Tenants %v, not %v", all, list)
		}
		for _, tenant := range wrongTenants() {
			if got := impl.Of(list, tenant); len(got) != 0 {
				t.Fatalf("Of(%v, %d) = %v", list, tenant, got)
			}
		}
	}
}

func checkInCells(t *testing.T, list []record, tenant int64, places []cell) {
	t.Helper()
	if got, want := impl.InCells(list, tenant, places), idsInCells(list, tenant, places); !slices.Equal(got, want) {
		t.Fatalf("InCells(%v, %d, %v) = %v, not %v", list, tenant, places, got, want)
	}
}

func TestInCellsTellsWhatTheCellsReach(t *testing.T) {
	places := rightLists(40)
	for i, list := range rightRecordLists(138) {
		for _, tenant := range []int64{1, 2, 3, 50, 98, 99} {
			for j := range 5 {
				checkInCells(t, list, tenant, places[(i*11+j*7+int(tenant))%len(places)])
			}
			checkInCells(t, list, tenant, []cell{{}})
			checkInCells(t, list, tenant, cellsOf(1)[:2])
		}
		for _, r := range list[:min(3, len(list))] {
			own := cell{Level: 8, X: r.At.X, Y: r.At.Y}
			checkInCells(t, list, r.Tenant, []cell{own})
			checkInCells(t, list, r.Tenant, []cell{{Level: 5, X: r.At.X / 8, Y: r.At.Y / 8}, own, own})
			checkInCells(t, list, 100-r.Tenant, []cell{own})
		}
	}
}

func TestInCellsNamedEdges(t *testing.T) {
	list := []record{{Tenant: 1, Id: 1}, {Tenant: 1, Id: 9, At: spot{X: 255, Y: 255}}, {Tenant: 1, Id: 10, At: spot{X: 127, Y: 128}}, {Tenant: 2, Id: 1}, {Tenant: 2, Id: greatestId, At: spot{X: 255}}}
	hundred := append(make([]cell, 0, 100), slices.Repeat([]cell{lastCell()}, 99)...)
	for _, c := range []struct {
		tenant int64
		places []cell
		want   []int64
	}{
		{1, []cell{{}}, []int64{1, 9, 10}},
		{2, []cell{{}}, []int64{1, greatestId}},
		{3, []cell{{}}, nil},
		{0, []cell{{}}, nil},
		{100, []cell{{}}, nil},
		{1, nil, nil},
		{1, []cell{}, nil},
		{1, []cell{{Level: 8}}, []int64{1}},
		{1, []cell{lastCell(), {Level: 8}}, []int64{1, 9}},
		{1, []cell{{}, {}, {Level: 8}}, []int64{1, 9, 10}},
		{1, []cell{{Level: 1, Y: 1}}, []int64{10}},
		{2, []cell{{Level: 1, X: 1}}, []int64{greatestId}},
		{1, append(slices.Clone(hundred), cell{Level: 1}), []int64{1, 9}},
		{1, append(slices.Clone(hundred), cell{Level: 1}, cell{}), nil},
		{1, []cell{{}, {Level: 9}}, nil},
		{1, []cell{{X: 1}, {}}, nil},
		{1, []cell{{Level: 8}, {Level: -1}}, nil},
	} {
		if got := impl.InCells(list, c.tenant, c.places); !slices.Equal(got, c.want) {
			t.Errorf("InCells(.., %d, %v) = %v, not %v", c.tenant, c.places, got, c.want)
		}
	}
}

func TestInCellsOfWrongCells(t *testing.T) {
	for _, list := range [][]record{nil, {{Tenant: 3, Id: 7}}, fullOfAll(), fullOfOne(3)} {
		for _, places := range wrongLists() {
			if got := impl.InCells(list, 3, places); len(got) != 0 {
				t.Fatalf("InCells(%v, 3, %v) = %v", list, places, got)
			}
		}
		for _, tenant := range wrongTenants() {
			if got := impl.InCells(list, tenant, []cell{{}}); len(got) != 0 {
				t.Fatalf("InCells(%v, %d, ..) = %v", list, tenant, got)
			}
		}
	}
}

// otherRecordLists are right ones, each unlike the list in one thing.
func otherRecordLists(list []record, at int) [][]record {
	var all [][]record
	change := func(by func(r *record)) {
		own := slices.Clone(list)
		by(&own[at])
		all = append(all, inTurns(heldIn(own)))
	}
	change(func(r *record) { r.Text = "another" })
	change(func(r *record) { r.At.X ^= 1 })
	change(func(r *record) { r.At.Y ^= 128 })
	change(func(r *record) { r.Id ^= 1 })
	change(func(r *record) { r.Tenant ^= 32 })
	return append(all, slices.Delete(slices.Clone(list), at, at+1), list[:at])
}

func TestSameIsRightAndAlike(t *testing.T) {
	lists := rightRecordLists(139)
	for i, a := range lists {
		if !impl.Same(a, a) || !impl.Same(a, slices.Clone(a)) {
			t.Fatalf("%v is not Same as itself", a)
		}
		for j, b := range lists {
			if got := impl.Same(a, b); got != slices.Equal(a, b) {
				t.Fatalf("Same of lists %d and %d is %v: %v and %v", i, j, got, a, b)
			}
		}
	}
	if !impl.Same(nil, []record{}) || !impl.Same([]record{}, nil) || !impl.Same(nil, nil) {
		t.Fatal("an empty list and nil are not Same")
	}
}

func TestSameOfListsUnlikeInOneThing(t *testing.T) {
	for _, list := range [][]record{fullOfOne(2), fullOfOne(64)[:20], {{Tenant: 1, Id: 2}}} {
		for _, at := range []int{0, len(list) / 2, len(list) - 1} {
			for _, other := range otherRecordLists(list, at) {
				if !areRecords(other) || impl.Same(list, other) || impl.Same(other, list) {
					t.Fatalf("%v and %v are Same", list, other)
				}
			}
		}
	}
}

// Wrong lists are Same as nothing, be it alike or what they should have been.
func TestSameOfWrongLists(t *testing.T) {
	for _, list := range wrongRecordLists() {
		for _, other := range [][]record{nil, fullOfAll(), list[:len(list)-1], list} {
			if impl.Same(list, other) || impl.Same(other, list) {
				t.Fatalf("%v and %v are Same", list, other)
			}
		}
	}
}

// roomyRecords are a copy with room behind it, in which something stands.
func roomyRecords(list []record) []record {
	return append(slices.Clone(list), record{Tenant: 77, Id: 77, Text: "room"}, record{Id: 78}, record{Id: 79})[:len(list)]
}

func areUntouched(list, was []record) bool {
	return slices.Equal(list, was) && slices.Equal(list[:len(list)+3], roomyRecords(was)[:len(was)+3])
}

func TestRecordArgumentsStay(t *testing.T) {
	next := someRule(140)
	places := slices.Concat(rightLists(20), wrongLists()[:20])
	for i, was := range slices.Concat(rightRecordLists(141), wrongRecordLists()) {
		list, other := roomyRecords(was), roomyRecords(was)
		some := []record{someRecord(3, 200, next), {Tenant: 1, Id: 1}, {Tenant: 99, Id: greatestId}, {Tenant: 3, Id: 7, At: spot{X: 256}}}
		if len(was) > 0 {
			some = append(some, record{Tenant: was[0].Tenant, Id: was[0].Id, Text: "new"}, was[len(was)/2])
		}
		for _, r := range some {
			made, _ := impl.Set(list, r)
			wipe(made)
			cut, _ := impl.Cut(list, r.Tenant, r.Id)
			wipe(cut)
			wipe(impl.Of(list, r.Tenant))
			given, all, had := withRoom(places[i%len(places)])
			wipe(impl.InCells(list, r.Tenant, given))
			if !slices.Equal(all, had) {
				t.Fatalf("%v was changed, or the room behind it", given)
			}
		}
		impl.RecordsOk(list)
		impl.Same(list, other)
		if !areUntouched(list, was) || !areUntouched(other, was) {
			t.Fatalf("%v was changed, or the room behind it", was)
		}
	}
}

// What is written into an argument later, or into another answer, is in none.
func TestRecordAnswersAreNew(t *testing.T) {
	for _, was := range rightRecordLists(142) {
		for _, r := range []record{{Tenant: 1, Id: 3, Text: "new"}, {Tenant: 50, Id: 2, Text: "new"}, {Tenant: 99, Id: greatestId, Text: "new"}, {}} {
			list := roomyRecords(was)
			made, cut, own := checkSet(t, list, r), checkCut(t, list, r.Tenant, r.Id), impl.Of(list, r.Tenant)
			wants := [][]record{slices.Clone(made), slices.Clone(cut), slices.Clone(own)}
			wipe(checkSet(t, list, r))
			wipe(checkCut(t, list, r.Tenant, r.Id))
			wipe(impl.Of(list, r.Tenant))
			wipe(list)
			for i, got := range [][]record{made, cut, own} {
				if !slices.Equal(got, wants[i]) {
					t.Fatalf("answer %d of %v and %v shares its memory", i, was, r)
				}
			}
			wipe(made)
			if !slices.Equal(cut, wants[1]) || !slices.Equal(own, wants[2]) {
				t.Fatalf("two answers of %v and %v share their memory", was, r)
			}
		}
	}
}

// Two who go on from one list don't know of each other.
func TestTwoWhoSetInOneList(t *testing.T) {
	for _, list := range someRecordLists(143) {
		if len(list) > 397 {
			continue
		}
		base := checkSet(t, list, record{Tenant: 1, Id: 1, Text: "base"})
		first := checkSet(t, base, record{Tenant: 99, Id: greatestId, Text: "first"})
		second := checkSet(t, base, record{Tenant: 99, Id: greatestId, Text: "second"})
		third := checkCut(t, base, 1, 1)
		if first[len(first)-1].Text != "first" || second[len(second)-1].Text != "second" || slices.Contains(third, base[0]) || base[0].Text != "base" {
			t.Fatalf("%v, %v and %v", first, second, third)
		}
	}
}

// What was asked ahead of it, or is asked beside it, leaves nothing behind.
func TestRecordsHangOnTheirArgumentsAlone(t *testing.T) {
	lists := rightRecordLists(144)
	var all sync.WaitGroup
	for worker := range 8 {
		all.Go(func() {
			for i := range lists {
				list := lists[(i*(2*worker+1))%len(lists)]
				r := record{Tenant: 1 + int64(i)%99, Id: 7, Text: "mine"}
				impl.Set([]record{{}}, r)
				made, is := impl.Set(list, r)
				back, gone := impl.Cut(made, r.Tenant, r.Id)
				without, had := impl.Cut(list, r.Tenant, r.Id)
				if is != gone || is != (had || len(list) < 400) || is && !slices.Equal(back, without) || !is && !slices.Equal(made, list) {
					t.Errorf("of %v and %v: %v, %v, %v, %v", list, r, made, is, back, gone)
				}
			}
		})
	}
	all.Wait()
}

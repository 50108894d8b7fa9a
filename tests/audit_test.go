package tests

import (
	"math"
	"slices"
	"strings"
	"sync"
	"testing"

	"loop.example/g00301/impl"
)

// An audit is all that is answered of one World.
type audit struct {
	AllOrNone, OnePlace bool
	Pending             int64
	Answers             [][]int64
}

func (a audit) alike(other audit) bool {
	return a.AllOrNone == other.AllOrNone && a.OnePlace == other.OnePlace && a.Pending == other.Pending &&
		slices.EqualFunc(a.Answers, other.Answers, slices.Equal[[]int64])
}

// askedTenants are all there can be, and some there can't.
func askedTenants() []int64 {
	all := wrongTenants()
	for tenant := range int64(99) {
		all = append(all, 1+tenant)
	}
	return all
}

func auditOf(w world) audit {
	a := audit{AllOrNone: impl.AllOrNone(w), OnePlace: impl.OnePlace(w), Pending: impl.Pending(w)}
	for _, tenant := range askedTenants() {
		a.Answers = append(a.Answers, impl.Answers(w, tenant))
	}
	return a
}

// saidDone are all of which a Log says that they are done, Sure or not, up to
// the first line that is none.
func saidDone(s shard) map[owner]int {
	said := map[owner]int{}
	all, _ := entriesOf(s.Log)
	for _, e := range all {
		if e.Kind == 2 {
			said[owner{e.Tenant, e.Seq}]++
		}
	}
	return said
}

// isAllOrNone is the document's words of it, of a right World.
func isAllOrNone(w world) bool {
	var said []map[owner]int
	for _, s := range w.Shards {
		said = append(said, saidDone(s))
	}
	for _, d := range w.Deals {
		for _, n := range d.Shards {
			is := said[n][owner{d.Tenant, d.Seq}] > 0
			if is && d.State != 1 || d.State == 1 && !is && !isSealed(w.Shards[n], d.Tenant, d.Seq) {
				return false
			}
		}
	}
	return true
}

func isInOnePlace(w world) bool {
	grid, held := shardsIn(w.Directory), map[owner]int{}
	for n, s := range w.Shards {
		for _, r := range s.Records {
			held[ownerOf(r)]++
			if grid.of(r.At) != int64(n) || held[ownerOf(r)] > 1 {
				return false
			}
		}
	}
	return true
}

func answersOf(w world, tenant int64) []int64 {
	var all []int64
	for i := range w.Deals {
		if d := w.Deals[i]; d.Tenant == tenant {
			all = append(all, 10*d.Seq+d.State)
		}
	}
	return all
}

func pendingIn(w world) int64 {
	var all []ready
	for _, s := range w.Shards {
		all = append(all, s.Readies...)
	}
	return int64(len(all))
}

// wantedAudit is the document's words of a right World.
func wantedAudit(w world) audit {
	a := audit{AllOrNone: isAllOrNone(w), OnePlace: isInOnePlace(w), Pending: pendingIn(w)}
	for _, tenant := range askedTenants() {
		a.Answers = append(a.Answers, answersOf(w, tenant))
	}
	return a
}

// noAudit is what is answered of a World that is not right.
func noAudit() audit {
	return audit{Pending: -1, Answers: make([][]int64, len(askedTenants()))}
}

func checkAudit(t *testing.T, w world) audit {
	t.Helper()
	got, want := auditOf(w), wantedAudit(w)
	if !got.alike(want) {
		t.Fatalf("of %s: %v, not %v", shownWorld(w), got, want)
	}
	return got
}

func checkAllOrNone(t *testing.T, w world, want bool) {
	t.Helper()
	if !isWorld(w) {
		t.Fatalf("%s is not right", shownWorld(w))
	}
	if got := checkAudit(t, w).AllOrNone; got != want {
		t.Fatalf("AllOrNone(%s) = %v", shownWorld(w), got)
	}
}

func checkOnePlace(t *testing.T, w world, want bool) {
	t.Helper()
	if !isWorld(w) {
		t.Fatalf("%s is not right", shownWorld(w))
	}
	if got := checkAudit(t, w).OnePlace; got != want {
		t.Fatalf("OnePlace(%s) = %v", shownWorld(w), got)
	}
}

// checkKept is the promise of a World that Acts made of a new one.
func checkKept(t *testing.T, w world) {
	t.Helper()
	if !impl.AllOrNone(w) || !isAllOrNone(w) {
		t.Fatalf("%s is not all or none", shownWorld(w))
	}
}

func checkKeptInCalm(t *testing.T, w world) {
	t.Helper()
	calm := impl.Calmed(w)
	if !impl.OnePlace(calm) || !isInOnePlace(calm) || impl.Pending(calm) != 0 || !impl.AllOrNone(calm) {
		t.Fatalf("%s, calmed as %s, is not in one place", shownWorld(w), shownWorld(calm))
	}
}

func TestAuditOfNewWorlds(t *testing.T) {
	for _, key := range rightKeys() {
		for count := int64(1); count <= 4; count++ {
			w := newWorld(t, key, count)
			got := checkAudit(t, w)
			if !got.AllOrNone || !got.OnePlace || got.Pending != 0 || len(slices.Concat(got.Answers...)) != 0 {
				t.Fatalf("of a new World of %d: %v", count, got)
			}
			checkKeptInCalm(t, w)
		}
	}
}

// From where it is asked for to where it is finished.
func TestAuditStepByStep(t *testing.T) {
	w := onTwo(t)
	for i, x := range []struct{ pending, answer int64 }{
		{0, 10}, {1, 10}, {1, 10}, {1, 10}, {2, 10}, {2, 10}, {2, 10}, {2, 11}, {1, 11}, {1, 11}, {0, 11}, {0, 11},
	} {
		if i > 0 {
			w = checkAct(t, w, allSteps(w.Deals[1])[i-1], 0)
		}
		got := checkAudit(t, w)
		if !got.AllOrNone || !got.OnePlace || got.Pending != x.pending || !slices.Equal(impl.Answers(w, 3), []int64{91, x.answer}) || len(impl.Answers(w, 2)) != 0 {
			t.Fatalf("behind %d steps: %v, %v", i, got, impl.Answers(w, 3))
		}
		checkKeptInCalm(t, w)
	}
}

// Where the new Spot is done ahead of the old one, it is in two places for as
// long as that is not done: and still it is all or none.
func TestAuditOfWhatIsHalfDone(t *testing.T) {
	w := onTwo(t)
	w = checkActs(t, w, append(toEach(w.Deals[1], 2, 6, 3), decideOf(3, 1, false), actTo(5, 1, 3, 1))...)
	checkAllOrNone(t, w, true)
	checkOnePlace(t, w, false)
	if impl.Pending(w) != 1 {
		t.Fatal(impl.Pending(w))
	}
	whole := checkActs(t, w, actTo(5, 0, 3, 1))
	checkAllOrNone(t, whole, true)
	checkOnePlace(t, whole, true)
	for _, n := range []int64{0, 1} {
		crashed := checkActs(t, whole, actOf(7, n))
		checkAllOrNone(t, crashed, true)
		checkOnePlace(t, crashed, n == 1)
		checkKeptInCalm(t, crashed)
	}
}

func TestAuditOfEdgeWorlds(t *testing.T) {
	for _, w := range append(edgeWorlds(), worldBases()...) {
		checkAudit(t, w)
	}
}

func TestAuditOfWrongWorlds(t *testing.T) {
	for _, w := range wrongWorlds() {
		if got := auditOf(w); isWorld(w) || !got.alike(noAudit()) {
			t.Fatalf("of %s: %v", shownWorld(w), got)
		}
	}
}

// Each thing by itself that makes of a World with Deals, Readies and Records one
// that is not right.
func TestAuditOfWhatIsNotRight(t *testing.T) {
	w := onTwo(t)
	w = checkActs(t, w, allSteps(w.Deals[1])[:5]...)
	if got := checkAudit(t, w); !got.AllOrNone || !got.OnePlace || got.Pending != 2 {
		t.Fatal(got)
	}
	for i, spoil := range []func(w *world){
		func(w *world) { w.Now = -1 }, func(w *world) { w.Now = greatestTime + 1 },
		func(w *world) { w.Key = -1 }, func(w *world) { w.Key = greatestSeal + 1 },
		func(w *world) { w.Shards = nil }, func(w *world) { w.Shards = w.Shards[:1] },
		func(w *world) { w.Shards = append(w.Shards, shard{}, shard{}, shard{}) },
		func(w *world) { w.Shards[0].Sure = -1 }, func(w *world) { w.Shards[1].Sure = int64(len(w.Shards[1].Log)) + 1 },
		func(w *world) { w.Shards[0].Over = []int64{0} }, func(w *world) { w.Shards[0].Records[0].Tenant = 0 },
		func(w *world) { w.Shards[1].Readies = append(w.Shards[1].Readies, w.Shards[1].Readies[0]) },
		func(w *world) { w.Directory = directory{} }, func(w *world) { w.Directory.Epoch = 0 },
		func(w *world) { w.Directory.Owns = w.Directory.Owns[:3] }, func(w *world) { w.Directory.Owns[2].Shard = 2 },
		func(w *world) { w.Deals[1].Shards[1] = 2 }, func(w *world) { w.Deals[1].State = 3 }, func(w *world) { w.Deals[1].State = 1 },
		func(w *world) { w.Deals[0].Votes = nil }, func(w *world) { w.Deals[1].Parts[0].Items = nil },
		func(w *world) { w.Deals = append(w.Deals, w.Deals[0]) }, func(w *world) { w.Deals = append(w.Deals, namedDeals(fullDeals-1)...) },
	} {
		made := copiedWorld(w)
		spoil(&made)
		if got := auditOf(made); isWorld(made) || !got.alike(noAudit()) {
			t.Fatalf("%d: of %s: %v", i, shownWorld(made), got)
		}
	}
}

// dealtOn is a World of so many Shards with nothing but one Deal of some of them.
func dealtOn(t *testing.T, count int64, d deal) world {
	t.Helper()
	w := newWorld(t, 7, count)
	w.Deals = []deal{d}
	return w
}

// yesOf is a Vote yes of each.
func yesOf(shards []int64) []int64 { return slices.Repeat([]int64{1}, len(shards)) }

// readied is a Shard that has a Deal's Part of it ready, and its line, all Sure.
func readied(d deal, n int64) shard {
	b := d.Parts[slices.Index(d.Shards, n)]
	log := lineOf(restOf(readyOf(b.Tenant, b.Seq, b.Items...)))
	return shard{Readies: []ready{ready(b)}, Log: log, Sure: int64(len(log))}
}

// surely has this as its Log, of which so many bytes are not Sure.
func surely(log string, less int) shard { return shard{Log: log, Sure: int64(len(log) - less)} }

// Of a Deal that is open, and of one that is off, whatever its Votes are: in any
// of its Shards, Sure or not.
func TestDoneOfWhatIsNotDone(t *testing.T) {
	line := lineOf("2 3 8")
	for _, shards := range [][]int64{{0}, {3}, {0, 1}, {1, 3}, {0, 1, 2}, {0, 1, 2, 3}} {
		for _, state := range []int64{0, 2} {
			for _, vote := range []int64{0, 1, 2} {
				w := dealtOn(t, 4, dealFor(shards, slices.Repeat([]int64{vote}, len(shards)), state))
				checkAllOrNone(t, w, true)
				for n := range int64(4) {
					is := slices.Contains(shards, n)
					for _, log := range []string{line, line + line, lineOf("3 3 8") + line, line + "x", lineOf("2 3 9") + line + lineOf("2 3 7")} {
						for _, less := range []int{0, 1, len(log)} {
							made := copiedWorld(w)
							made.Shards[n] = surely(log, less)
							checkAllOrNone(t, made, !is)
						}
					}
					for _, log := range []string{"", "x", line[:len(line)-1], line[1:], "x" + line, "x\n" + line, "\n" + line, " " + line, lineOf("3 3 8"), lineOf("2 3 8 "), lineOf("02 3 8"), "1" + line} {
						made := copiedWorld(w)
						made.Shards[n] = surely(log, 0)
						checkAllOrNone(t, made, true)
					}
				}
			}
		}
	}
}

// It is there, it waits and is Sealed, or it is both: but not neither, in any of
// its Shards.
func TestDoneHasItsLineOrIsSealed(t *testing.T) {
	line := lineOf("2 3 8")
	for _, shards := range [][]int64{{0}, {3}, {0, 1}, {1, 3}, {0, 1, 2}, {0, 1, 2, 3}} {
		d := dealFor(shards, yesOf(shards), 1)
		all := dealtOn(t, 4, d)
		checkAllOrNone(t, all, false)
		var said, waiting, mixed = copiedWorld(all), copiedWorld(all), copiedWorld(all)
		for i, n := range shards {
			said.Shards[n], waiting.Shards[n] = surely(line, 0), readied(d, n)
			mixed.Shards[n] = said.Shards[n]
			if i%2 == 0 {
				mixed.Shards[n] = waiting.Shards[n]
			}
		}
		for _, w := range []world{said, waiting, mixed} {
			checkAllOrNone(t, w, true)
			for _, n := range shards {
				made := copiedWorld(w)
				made.Shards[n] = shard{}
				checkAllOrNone(t, made, false)
				checkSaidOr(t, w, d, n)
			}
			// What another Shard has is none of its own.
			made := copiedWorld(w)
			for n := range int64(4) {
				if !slices.Contains(shards, n) {
					made.Shards[n] = surely(line, 0)
				}
			}
			checkAllOrNone(t, made, true)
			made.Shards[shards[0]] = shard{}
			checkAllOrNone(t, made, false)
		}
	}
}

// checkSaidOr is of a World that is all or none, with all that can become of one
// of the Deal's Shards.
func checkSaidOr(t *testing.T, w world, d deal, n int64) {
	t.Helper()
	line, own := lineOf("2 3 8"), readied(d, n)
	other := own
	other.Readies = []ready{heldReady(3, 8, cutOf(77))}
	behind := surely(own.Log+line, len(line))
	behind.Readies = own.Readies
	late := own
	late.Sure--
	within, lost := own, own
	within.Log, within.Sure = "x"+own.Log, own.Sure+1
	lost.Log, lost.Sure = "x\n"+own.Log, own.Sure+2
	for i, x := range []struct {
		s    shard
		want bool
	}{
		{surely(line, 0), true}, {surely(line, 1), true}, {surely(line, len(line)), true}, {surely("x"+line, 0), false}, {surely("x\n"+line, 0), false}, {surely(line[:len(line)-1], 0), false},
		{surely(lineOf("3 3 8")+line, 3), true}, {surely(line+"x", 0), true}, {surely(lineOf("3 3 8"), 0), false}, {surely(own.Log, 0), false},
		{own, true}, {behind, true}, {late, false}, {within, false}, {lost, false}, {other, false}, {shard{Readies: own.Readies}, false},
		{shard{Over: []int64{numberFor(3, 8)}}, false}, {shard{Over: []int64{numberFor(3, 8)}, Log: line}, true},
		{shard{Readies: own.Readies, Log: line}, true}, {shard{Readies: own.Readies, Log: line, Sure: int64(len(line))}, true},
	} {
		made := copiedWorld(w)
		made.Shards[n] = x.s
		if got := impl.AllOrNone(made); got != x.want {
			t.Fatalf("%d: AllOrNone(%s) = %v", i, shownWorld(made), got)
		}
		checkAllOrNone(t, made, x.want)
	}
}

// Another Tenant's, or of another Seq: neither does it harm, nor does it help.
func TestLinesOfOthersCountForNothing(t *testing.T) {
	shards := []int64{0, 1}
	for _, name := range []owner{{2, 8}, {4, 8}, {8, 3}, {3, 7}, {3, 9}, {3, 80}, {3, 88}, {3, 1008}, {30, 8}, {33, 8}, {38, 3}, {1, 1}, {99, greatestId}, {3, greatestId}} {
		line := lineOf(restOf(doneOf(name.tenant, name.id)))
		for state := range int64(3) {
			w := dealtOn(t, 2, dealFor(shards, yesOf(shards), state))
			for n := range w.Shards {
				w.Shards[n] = surely(line, 0)
			}
			checkAllOrNone(t, w, state != 1)
			// A Ready of that name isn't one of the Deal, either.
			for n := range w.Shards {
				items := w.Deals[0].Parts[n].Items
				w.Shards[n] = surely(lineOf(restOf(readyOf(name.tenant, name.id, items...))), 0)
				w.Shards[n].Readies = []ready{heldReady(name.tenant, name.id, items...)}
			}
			checkAllOrNone(t, w, state != 1)
		}
	}
	// With no Deal of its name it can be there as it likes.
	w := newWorld(t, 7, 2)
	w.Shards[0] = surely(lineOf("2 3 8"), 0)
	w.Shards[1] = surely(lineOf("2 3 8"), 4)
	checkAllOrNone(t, w, true)
}

// One of many Deals, first or last, is enough.
func TestEachDealIsAsked(t *testing.T) {
	for _, count := range []int{1, 2, 50, fullDeals} {
		w := newWorld(t, 7, 2)
		w.Deals = namedDeals(count)
		var log strings.Builder
		for i := range w.Deals {
			if d := &w.Deals[i]; i%3 == 0 {
				d.State, d.Votes = 1, []int64{1}
				log.WriteString(lineOf(restOf(doneOf(d.Tenant, d.Seq))))
			}
		}
		w.Shards[0] = surely(log.String(), 0)
		checkAllOrNone(t, w, true)
		for i := range w.Deals {
			made := copiedWorld(w)
			d := &made.Deals[i]
			if d.State == 1 {
				d.State = 2 * int64(i%2)
			} else {
				d.State, d.Votes = 1, []int64{1}
			}
			checkAllOrNone(t, made, false)
			// In the Shard of the others it is of no use.
			made.Shards[1] = w.Shards[0]
			checkAllOrNone(t, made, false)
		}
	}
}

// A Log as long as it can be is read whole, and those of four Shards with as
// many Deals and Readies as can be.
func TestAllOrNoneOfFullLogs(t *testing.T) {
	last := lineOf("2 3 8")
	filler := strings.Repeat(lineOf("3 99 100000"), fullLog/len(lineOf("3 99 100000")))
	filler = filler[:len(filler)-3*len(lineOf("3 99 100000"))]
	shards := []int64{0, 1, 2, 3}
	w := dealtOn(t, 4, dealFor(shards, yesOf(shards), 1))
	for n := range w.Shards {
		w.Shards[n] = surely(filler+last, 0)
	}
	checkAllOrNone(t, w, true)
	w.Shards[3] = surely(filler, 0)
	checkAllOrNone(t, w, false)
	w.Deals[0].State = 2
	checkAllOrNone(t, w, false)

	full := newWorld(t, 7, 4)
	held := shard{Readies: manyReadies(100), Log: filler[:50*len(lineOf("3 99 100000"))]}
	for _, r := range held.Readies {
		full.Deals = append(full.Deals, deal{Tenant: r.Tenant, Seq: r.Seq, Parts: slices.Repeat([]batch{batch(r)}, 4), Shards: shards, Votes: yesOf(shards), State: 1})
		held.Log += lineOf(restOf(readyOf(r.Tenant, r.Seq, r.Items...)))
	}
	held.Sure = int64(len(held.Log))
	for n := range full.Shards {
		full.Shards[n] = held
	}
	checkAllOrNone(t, full, true)
	if impl.Pending(full) != 400 {
		t.Fatal(impl.Pending(full))
	}
	full.Shards[2].Sure--
	checkAllOrNone(t, full, false)
}

func TestOnePlaceNamedEdges(t *testing.T) {
	at := quarterSpots()
	r := func(tenant, id int64, s spot) record { return record{Tenant: tenant, Id: id, At: s} }
	for i, x := range []struct {
		lists [][]record
		want  bool
	}{
		{[][]record{nil, nil, nil, nil}, true},
		{[][]record{{r(3, 5, at[0])}, nil, nil, nil}, true},
		{[][]record{{r(3, 5, at[0])}, {r(3, 6, at[1])}, {r(3, 7, at[2])}, {r(3, 8, at[3])}}, true},
		{[][]record{nil, nil, nil, {r(3, 5, at[3])}}, true},
		{[][]record{nil, {r(3, 5, spot{X: 255})}, {r(3, 6, spot{Y: 255})}, {r(3, 7, spot{X: 255, Y: 255})}}, true},
		{[][]record{{r(3, 5, at[1])}, nil, nil, nil}, false},
		{[][]record{nil, {r(3, 5, at[0])}, nil, nil}, false},
		{[][]record{nil, nil, {r(3, 5, at[3])}, nil}, false},
		{[][]record{nil, nil, nil, {r(3, 5, at[2])}}, false},
		{[][]record{{r(3, 5, at[0]), r(3, 6, at[0]), r(3, 7, at[2])}, nil, nil, nil}, false},
		{[][]record{{r(3, 5, at[1])}, {r(3, 6, at[0])}, nil, nil}, false},
		// One Tenant and Id twice, each of which lies where it should.
		{[][]record{{r(3, 5, at[0])}, {r(3, 5, at[1])}, nil, nil}, false},
		{[][]record{{r(3, 5, at[0])}, nil, nil, {r(3, 5, at[3])}}, false},
		{[][]record{nil, nil, {r(3, 5, at[2])}, {r(3, 5, at[3])}}, false},
		{[][]record{{r(2, 1, at[0]), r(3, 5, at[0])}, nil, {r(3, 5, at[2]), r(4, 9, at[2])}, nil}, false},
		{[][]record{{r(3, 5, at[0])}, {r(3, 5, at[1])}, {r(3, 5, at[2])}, {r(3, 5, at[3])}}, false},
		{[][]record{{r(99, greatestId, at[0])}, nil, nil, {r(99, greatestId, at[3])}}, false},
		// The same Id of two Tenants, and the same numbers the other way round.
		{[][]record{{r(3, 5, at[0]), r(4, 5, at[0])}, nil, nil, nil}, true},
		{[][]record{{r(3, 5, at[0])}, {r(4, 5, at[1])}, {r(5, 3, at[2])}, {r(2, 5, at[3])}}, true},
		{[][]record{{r(1, greatestId, at[0])}, {r(2, 1, at[1])}, {r(1, 1, at[2])}, {r(2, greatestId, at[3])}}, true},
		{[][]record{{r(1, 11, at[0])}, {r(11, 1, at[1])}, nil, nil}, true},
	} {
		w := newWorld(t, 7, 4)
		for n, list := range x.lists {
			w.Shards[n].Records = list
		}
		if got := impl.OnePlace(w); got != x.want {
			t.Errorf("%d: OnePlace of %v = %v", i, x.lists, got)
		}
		checkOnePlace(t, w, x.want)
		// Nothing but the Records and the Directory is asked.
		w.Deals = namedDeals(5)
		w.Shards[1].Readies, w.Shards[2].Log = manyReadies(9), "x"
		checkOnePlace(t, w, x.want)
	}
}

// All over the grid, by any Directory; and of each Record alone, in each Shard.
func TestOnePlaceByAnyDirectory(t *testing.T) {
	next := someRule(2000)
	for _, d := range append(edgeDirectories(), someDirectories(20, 2001)...) {
		w := world{Directory: d, Shards: make([]shard, 4)}
		grid := shardsIn(d)
		for _, r := range someRecords(300, 99, greatestId, next) {
			n := grid.of(r.At)
			w.Shards[n].Records = append(w.Shards[n].Records, r)
		}
		checkOnePlace(t, w, true)
		for range 30 {
			made := copiedWorld(w)
			n, other := next(4), next(4)
			if len(made.Shards[n].Records) == 0 {
				continue
			}
			i := int(next(int64(len(made.Shards[n].Records))))
			r := made.Shards[n].Records[i]
			made.Shards[n].Records = slices.Delete(made.Shards[n].Records, i, i+1)
			made.Shards[other].Records = inTurns(heldIn(append(made.Shards[other].Records, r)))
			checkOnePlace(t, made, n == other)
		}
	}
}

// As many as can be: 400 in each of four Shards.
func TestOnePlaceOfMany(t *testing.T) {
	w := newWorld(t, 7, 4)
	at := quarterSpots()
	for n := range w.Shards {
		for i := range int64(400) {
			w.Shards[n].Records = append(w.Shards[n].Records, record{Tenant: 1 + i%4 + 4*int64(n), Id: 1 + i/4, At: at[n]})
		}
		w.Shards[n].Records = inTurns(heldIn(w.Shards[n].Records))
	}
	checkOnePlace(t, w, true)
	for n := range w.Shards {
		for _, i := range []int{0, 1, 399} {
			made := copiedWorld(w)
			r := made.Shards[(n+1)%4].Records[i]
			r.At = at[n]
			list := append(made.Shards[n].Records[:399:399], r)
			made.Shards[n].Records = inTurns(heldIn(list))
			checkOnePlace(t, made, false)
		}
	}
}

func TestAnswersNamedEdges(t *testing.T) {
	named := func(tenant, seq, state int64) deal {
		return deal{Tenant: tenant, Seq: seq, Parts: partsFor(tenant, seq, 1), Shards: []int64{0}, Votes: []int64{1}, State: state}
	}
	w := newWorld(t, 7, 1)
	w.Deals = []deal{named(3, 7, 2), named(2, 7, 0), named(3, 1, 0), named(3, greatestId, 1), named(99, greatestId, 2), named(3, 6, 1), named(1, 1, 0), named(2, 1, 2), named(99, 1, 1), named(1, greatestId, 0)}
	for tenant, want := range map[int64][]int64{
		3: {72, 10, 10*greatestId + 1, 61}, 2: {70, 12}, 99: {10*greatestId + 2, 11}, 1: {10, 10 * greatestId},
		4: nil, 98: nil, 0: nil, -3: nil, 100: nil, 1<<32 + 3: nil, math.MinInt64: nil, math.MaxInt64: nil,
	} {
		if got := impl.Answers(w, tenant); !slices.Equal(got, want) {
			t.Errorf("Answers of %d = %v, not %v", tenant, got, want)
		}
	}
	checkAudit(t, w)
	for _, count := range []int{0, 1, 2, 11, 99, fullDeals} {
		w.Deals = namedDeals(count)
		all := checkAudit(t, w)
		if got := len(slices.Concat(all.Answers...)); got != count {
			t.Fatalf("%d answers of %d Deals", got, count)
		}
		for i := range w.Deals {
			w.Deals[i] = named(3, int64(1+7*i), int64(i%3))
		}
		checkAudit(t, w)
		if got := impl.Answers(w, 3); len(got) != count || count > 0 && got[count-1] != int64(10*(1+7*(count-1))+(count-1)%3) {
			t.Fatal(got)
		}
		slices.Reverse(w.Deals)
		checkAudit(t, w)
	}
}

func TestPendingNamedEdges(t *testing.T) {
	for count := int64(1); count <= 4; count++ {
		w := newWorld(t, 7, count)
		var want int64
		for n := range w.Shards {
			for _, many := range []int64{1, 2, 99, 100} {
				w.Shards[n].Readies = manyReadies(many)
				if got := checkAudit(t, w).Pending; got != want+many {
					t.Fatalf("%d Readies, not %d", got, want+many)
				}
			}
			want += 100
		}
		// Neither Deals, nor lines, nor what is over counts.
		w = newWorld(t, 7, count)
		w.Deals = namedDeals(fullDeals)
		w.Shards[0] = shard{Records: fullOfOne(3), Over: manyOver(fullOver), Log: sixReadies().Log}
		if got := checkAudit(t, w).Pending; got != 0 {
			t.Fatal(got)
		}
		w.Shards[count-1] = sixReadies()
		if got := checkAudit(t, w).Pending; got != 6 {
			t.Fatal(got)
		}
	}
}

// fallenOf are all Worlds that come of one when some Shards crash, and all Deals
// are forgotten or not.
func fallenOf(w world) []world {
	var all []world
	count := int64(len(w.Shards))
	for bits := range int64(2) << count {
		made := w
		for n := range count {
			if bits>>n&1 == 1 {
				made, _ = impl.Happen(made, actOf(7, n))
			}
		}
		if bits>>count == 1 {
			made, _ = impl.Happen(made, act{Kind: 8})
		}
		all = append(all, made)
	}
	return all
}

// fallingAct is as someAct, but that more falls and crashes, that more is put
// off, and that what is done is settled without being Sure.
func fallingAct(w world, rule worldRule, next func(below int64) int64) act {
	switch luck := next(16); {
	case luck == 0:
		return act{Kind: 8}
	case luck < 3:
		return actOf(7, next(rule.shards))
	case luck < 5 && len(w.Deals) > 0:
		d := w.Deals[next(int64(len(w.Deals)))]
		return actTo(5, d.Shards[next(int64(len(d.Shards)))], d.Tenant, d.Seq)
	}
	return someAct(w, rule, next)
}

// The promise: at each step of scripts of 100 Acts, and whoever falls there.
func TestScriptsAreAllOrNone(t *testing.T) {
	states := map[int64]int{}
	var twice int
	for seed, rule := range worldRules() {
		for script := range uint32(8) {
			next := someRule(2100 + 100*uint32(seed) + script)
			w := newWorld(t, 7, rule.shards)
			for i := range 100 {
				a := someAct(w, rule, next)
				if script%2 == 1 {
					a = fallingAct(w, rule, next)
				}
				w, _ = impl.Happen(w, a)
				checkKept(t, w)
				if i%3 == int(script)%3 {
					for _, made := range fallenOf(w) {
						checkKept(t, made)
					}
				}
				if i%10 == 9 {
					checkKeptInCalm(t, w)
				}
				if !impl.OnePlace(w) {
					twice++
				}
			}
			checkAudit(t, w)
			for _, made := range fallenOf(w) {
				checkKeptInCalm(t, made)
			}
			for _, d := range w.Deals {
				states[d.State]++
			}
		}
	}
	if states[0] < 50 || states[1] < 100 || states[2] < 50 || twice < 20 {
		t.Fatalf("%v, %d: the rule tells too little", states, twice)
	}
}

// Each script is what Play makes of it at once, and goes on from what fell.
func TestPlayedScriptsAreAllOrNone(t *testing.T) {
	for seed, rule := range worldRules() {
		next := someRule(3000 + uint32(seed))
		w := newWorld(t, 7, rule.shards)
		var list []act
		for len(list) < 100 {
			a := fallingAct(w, rule, next)
			w, _ = impl.Happen(w, a)
			list = append(list, a)
		}
		first := newWorld(t, 7, rule.shards)
		for count := range 101 {
			made, _ := impl.Play(first, list[:count])
			checkKept(t, made)
			if count%10 == 0 {
				checkKeptInCalm(t, made)
			}
		}
		// And in another order, and from the end on.
		slices.Reverse(list)
		for _, from := range []world{first, w} {
			made, _ := impl.Play(from, list)
			checkKept(t, made)
			checkKeptInCalm(t, made)
		}
	}
}

// Ahead of each step, behind it and at both some fall, and the steps go on from
// where they were.
func TestWhoeverFallsItIsAllOrNone(t *testing.T) {
	base := onTwo(t)
	steps := allSteps(base.Deals[1])
	for first := range len(steps) + 1 {
		w := base
		for _, a := range steps[:first] {
			w = checkActs(t, w, a)
		}
		for _, fallen := range fallenOf(w) {
			checkAudit(t, fallen)
			checkKept(t, fallen)
			checkKeptInCalm(t, fallen)
			for second := first; second < len(steps); second++ {
				fallen, _ = impl.Happen(fallen, steps[second])
				checkKept(t, fallen)
				for _, again := range fallenOf(fallen) {
					checkKept(t, again)
					checkKeptInCalm(t, again)
				}
			}
			off, _ := impl.Happen(fallen, decideOf(3, 1, true))
			off, _ = impl.Play(off, toEach(off.Deals[1], 5))
			checkKept(t, off)
			checkKeptInCalm(t, off)
		}
	}
}

// spoiled has one thing that no script does: of its Deals, its Logs or its
// Records.
func spoiled(w world, next func(below int64) int64) world {
	w = copiedWorld(w)
	d := &w.Deals[next(int64(len(w.Deals)))]
	at := d.Shards[next(int64(len(d.Shards)))]
	if next(4) == 0 {
		at = next(int64(len(w.Shards)))
	}
	s := &w.Shards[at]
	switch next(8) {
	case 0:
		s.Log += lineOf(restOf(doneOf(d.Tenant, d.Seq)))
	case 1:
		s.Log = lineOf(restOf(doneOf(d.Tenant, d.Seq))) + s.Log
	case 2:
		s.Log = s.Log[:next(int64(len(s.Log)+1))]
		s.Sure = min(s.Sure, int64(len(s.Log)))
	case 3:
		d.State, d.Votes = 1, yesOf(d.Shards)
	case 4:
		d.State = 2 * next(2)
	case 5:
		s.Sure = next(int64(len(s.Log) + 1))
	case 6:
		s.Readies = nil
	case 7:
		r := record{Tenant: d.Tenant, Id: d.Parts[0].Items[0].Id, At: spot{X: next(256), Y: next(256)}}
		s.Records = inTurns(heldIn(append(s.Records, r)))
	}
	return w
}

func TestAuditOfSpoiledWorlds(t *testing.T) {
	counts := map[[2]bool]int{}
	for seed, rule := range worldRules() {
		next := someRule(2900 + uint32(seed))
		w := newWorld(t, 7, rule.shards)
		for range 90 {
			w, _ = impl.Happen(w, someAct(w, rule, next))
			made := w
			for range min(6, 6*len(w.Deals)) {
				if made = spoiled(made, next); !isWorldBeside(made) {
					t.Fatalf("%s is not right", shownWorld(made))
				}
				got := checkAudit(t, made)
				counts[[2]bool{got.AllOrNone, got.OnePlace}]++
			}
		}
	}
	for _, all := range []bool{false, true} {
		for _, one := range []bool{false, true} {
			if counts[[2]bool{all, one}] < 100 {
				t.Fatalf("%v: the rule tells too little", counts)
			}
		}
	}
}

func TestAuditArgumentsStay(t *testing.T) {
	all, _ := worldCases(t, 3100)
	for _, was := range all {
		w := roomyWorld(was)
		for _, list := range auditOf(w).Answers {
			wipe(list)
		}
		if !isSameWorld(w, was) {
			t.Fatalf("%s was changed, or the room behind it", shownWorld(was))
		}
	}
}

// What is written into the World later, or into another answer, is in none.
func TestAuditAnswersAreNew(t *testing.T) {
	all, _ := worldCases(t, 3200)
	all = append(all, world{Directory: directory{Epoch: 1, Owns: []own{{}}}, Shards: make([]shard, 1), Deals: namedDeals(fullDeals)})
	for _, was := range all {
		w := copiedWorld(was)
		got := auditOf(w)
		checkApart(t, w, got, auditOf(w), w)
		for i, list := range got.Answers {
			wipe(list)
			got.Answers[i] = nil
		}
		got, want := auditOf(w), auditOf(was)
		scrawlWorld(w)
		if !got.alike(want) {
			t.Fatalf("an answer of %s shares its memory", shownWorld(was))
		}
	}
}

// What was asked ahead of it, or is asked beside it, leaves nothing behind.
func TestAuditsHangOnTheirArgumentsAlone(t *testing.T) {
	all, _ := worldCases(t, 3300)
	var want []audit
	for _, w := range all {
		want = append(want, auditOf(w))
	}
	var workers sync.WaitGroup
	for worker := range 8 {
		workers.Go(func() {
			for i := range all {
				n := (i*(2*worker+1) + worker) % len(all)
				if !auditOf(all[n]).alike(want[n]) {
					t.Errorf("the answers of %s are others", shownWorld(all[n]))
				}
			}
		})
	}
	workers.Wait()
}

package tests

import (
	"fmt"
	"math"
	"reflect"
	"slices"
	"strings"
	"sync"
	"testing"

	"loop.example/g00301/impl"
)

type world = impl.World
type act = impl.Act

const (
	fullDeals = 100
	fullActs  = 200
	nothing   = 9
	noWorld   = 10
)

func alikeWorlds(a, b world) bool {
	return a.Now == b.Now && a.Key == b.Key && alikeDirectories(a.Directory, b.Directory) &&
		slices.EqualFunc(a.Shards, b.Shards, alikeShards) && slices.EqualFunc(a.Deals, b.Deals, alikeDeals)
}

func copiedWorld(w world) world {
	w.Directory, w.Shards, w.Deals = copiedDirectory(w.Directory), slices.Clone(w.Shards), slices.Clone(w.Deals)
	for i := range w.Shards {
		w.Shards[i] = copiedShard(w.Shards[i])
	}
	for i := range w.Deals {
		w.Deals[i] = copiedDeal(w.Deals[i])
	}
	return w
}

// brief is as much of a value as can be read in a message.
func brief(v any, most int) string {
	text := fmt.Sprint(v)
	return text[:min(len(text), most)]
}

func shownWorld(w world) string {
	text := fmt.Sprintf("{Now %d, Key %d, %s", w.Now, w.Key, brief(w.Directory, 200))
	for _, s := range w.Shards {
		text += ", " + shown(s)
	}
	return text + fmt.Sprintf(", %d Deals %s}", len(w.Deals), brief(w.Deals, 1000))
}

// isWorld is the document's words of one.
func isWorld(w world) bool { return isDirectory(w.Directory) && isWorldBeside(w) }

// isWorldBeside asks for all but whether the Directory is right by itself.
func isWorldBeside(w world) bool {
	count := int64(len(w.Shards))
	if w.Now < 0 || w.Now > greatestTime || w.Key < 0 || w.Key > greatestSeal || count < 1 || count > 4 || len(w.Deals) > fullDeals {
		return false
	}
	for _, o := range w.Directory.Owns {
		if o.Shard >= count {
			return false
		}
	}
	for _, s := range w.Shards {
		if !isShard(s) {
			return false
		}
	}
	names := map[owner]int{}
	for _, d := range w.Deals {
		names[owner{d.Tenant, d.Seq}]++
		if !isDeal(d) || names[owner{d.Tenant, d.Seq}] > 1 || slices.Max(d.Shards) >= count {
			return false
		}
	}
	return true
}

// allOf is gone through from the last Shard on, so that the first one's stays.
func allOf(w world) []record {
	held := map[owner]record{}
	for n := len(w.Shards) - 1; n >= 0; n-- {
		for _, r := range w.Shards[n].Records {
			held[ownerOf(r)] = r
		}
	}
	return inTurns(held)
}

func isFinished(w world, d deal) bool {
	if d.State != 1 {
		return d.State == 2
	}
	for _, n := range d.Shards {
		all, _ := entriesOf(w.Shards[n].Log[:w.Shards[n].Sure])
		if !slices.ContainsFunc(all, func(e entry) bool { return alikeEntries(e, doneOf(d.Tenant, d.Seq)) }) {
			return false
		}
	}
	return true
}

func isPaper(p paper) bool {
	if p.Tenant < 1 || p.Tenant > 99 || len(p.Clauses) < 1 || len(p.Clauses) > 6 || p.Tag < 0 || p.Tag > greatestSeal {
		return false
	}
	for _, c := range p.Clauses {
		if c.Until < 0 || c.Until > greatestTime || len(c.Read) > 8 || len(c.Write) > 8 {
			return false
		}
		for _, one := range slices.Concat(c.Read, c.Write) {
			if !isCell(one) {
				return false
			}
		}
	}
	return true
}

func isGenuine(key int64, p paper) bool {
	return isPaper(p) && p.Tag == chainOf(key, paperTexts(p.Tenant, p.Clauses))
}

func hasIdOf(d deal, b batch) bool {
	for _, part := range d.Parts {
		for _, i := range part.Items {
			if slices.ContainsFunc(b.Items, func(other item) bool { return other.Id == i.Id }) {
				return true
			}
		}
	}
	return false
}

func isAskable(w world, a act) bool {
	b := batchAt(a.Tenant, a.Seq, a.Items...)
	own := ofTenant(allOf(w), a.Tenant)
	if !isBatch(b) || len(w.Deals) == fullDeals || len(own) > 400 {
		return false
	}
	for _, d := range w.Deals {
		if d.Tenant == a.Tenant && (d.Seq == a.Seq || hasIdOf(d, b) && !isFinished(w, d)) {
			return false
		}
	}
	_, can := heldAfter(own, b)
	return can && isGenuine(w.Key, a.Paper) && isPermitted(a.Paper, own, b, w.Now)
}

// happenedOf is the document's words of an Act in a right World.
func happenedOf(w world, a act) (world, int64) {
	made := copiedWorld(w)
	at := slices.IndexFunc(w.Deals, func(d deal) bool { return d.Tenant == a.Tenant && d.Seq == a.Seq })
	isThere := a.Shard >= 0 && a.Shard < int64(len(w.Shards))
	switch {
	case a.Kind == 1 && isAskable(w, a):
		d, _ := openedOf(partsOf(w.Directory, batchAt(a.Tenant, a.Seq, a.Items...), ofTenant(allOf(w), a.Tenant)))
		made.Deals = append(made.Deals, d)
	case a.Kind >= 2 && a.Kind <= 5 && at >= 0:
		code := dealtIn(made, &made.Deals[at], a)
		return made, code
	case a.Kind == 6 && isThere:
		made.Shards[a.Shard] = syncedOf(w.Shards[a.Shard])
	case a.Kind == 7 && isThere:
		made.Shards[a.Shard] = rebornOf(w.Shards[a.Shard].Log[:w.Shards[a.Shard].Sure])
	case a.Kind == 8:
		for i, d := range w.Deals {
			made.Deals[i] = forgottenOf(d)
		}
	case a.Kind == 9 && a.N >= 1 && a.N <= greatestTime-w.Now:
		made.Now += a.N
	default:
		return made, nothing
	}
	return made, 0
}

// dealtIn does to a Deal, and to a Shard of its, what an Act of Kind 2 to 5 does.
func dealtIn(w world, d *deal, a act) int64 {
	is := false
	part := slices.Index(d.Shards, a.Shard)
	switch {
	case a.Kind == 4:
		*d, is = decidedOf(*d, a.Yes)
	case part < 0:
	case a.Kind == 2 && d.State == 0:
		made, code := preparedOf(w.Shards[a.Shard], d.Parts[part])
		w.Shards[a.Shard] = made
		if code == 2 || code == 3 {
			*d, _ = votedOf(*d, a.Shard, false)
		}
		return code
	case a.Kind == 3 && isSealed(w.Shards[a.Shard], a.Tenant, a.Seq):
		*d, is = votedOf(*d, a.Shard, true)
	case a.Kind == 5 && d.State != 0:
		w.Shards[a.Shard], is = settledOf(w.Shards[a.Shard], a.Tenant, a.Seq, d.State == 1)
	}
	if is {
		return 0
	}
	return nothing
}

func calmedOf(w world) world {
	for at := range len(w.Deals) {
		d := w.Deals[at]
		happens := func(kind, n int64, off bool) {
			w, _ = happenedOf(w, act{Kind: kind, Shard: n, Tenant: d.Tenant, Seq: d.Seq, Yes: off})
		}
		for _, n := range d.Shards {
			happens(2, n, false)
			happens(6, n, false)
			happens(3, n, false)
		}
		happens(4, 0, false)
		if w.Deals[at].State == 0 {
			happens(4, 0, true)
		}
		for _, n := range d.Shards {
			happens(5, n, false)
			happens(6, n, false)
		}
	}
	return w
}

func checkHappen(t *testing.T, w world, a act) (world, int64) {
	t.Helper()
	got, code := impl.Happen(w, a)
	want, wantCode := happenedOf(w, a)
	if code != wantCode || !alikeWorlds(got, want) {
		t.Fatalf("Happen(%s, %v) = %s, %d, not %s, %d", shownWorld(w), a, shownWorld(got), code, shownWorld(want), wantCode)
	}
	// That the Directory is right by itself needs no second look: it is the same.
	if !impl.WorldOk(got) || !isWorldBeside(got) {
		t.Fatalf("Happen(%s, %v) = %s is not right", shownWorld(w), a, shownWorld(got))
	}
	return got, code
}

func checkAct(t *testing.T, w world, a act, want int64) world {
	t.Helper()
	got, code := checkHappen(t, w, a)
	if code != want {
		t.Fatalf("Happen(%s, %v) says %d, not %d", shownWorld(w), a, code, want)
	}
	if want == nothing && !alikeWorlds(got, w) {
		t.Fatalf("Happen(%s, %v) = %s, where nothing is done", shownWorld(w), a, shownWorld(got))
	}
	return got
}

// checkActs are Acts of each of which the code is 0.
func checkActs(t *testing.T, w world, list ...act) world {
	t.Helper()
	for _, a := range list {
		w = checkAct(t, w, a, 0)
	}
	return w
}

// checkCalm is the promise: in calm no Deal is open, each is finished, and
// nothing is ready.
func checkCalm(t *testing.T, w world) world {
	t.Helper()
	got := impl.Calmed(w)
	if !impl.WorldOk(got) || !isWorldBeside(got) || !alikeDirectories(got.Directory, w.Directory) || got.Now != w.Now || len(got.Deals) != len(w.Deals) {
		t.Fatalf("Calmed(%s) = %s is not right", shownWorld(w), shownWorld(got))
	}
	for i, d := range got.Deals {
		if d.State == 0 || !isFinished(got, d) || w.Deals[i].State != 0 && !alikeDeals(d, w.Deals[i]) {
			t.Fatalf("Calmed(%s) has %v", shownWorld(w), d)
		}
	}
	for _, s := range got.Shards {
		if len(s.Readies) > 0 {
			t.Fatalf("Calmed(%s) has Readies in %s", shownWorld(w), shown(s))
		}
	}
	if again := impl.Calmed(got); !alikeWorlds(again, got) {
		t.Fatalf("Calmed(%s) = %s", shownWorld(got), shownWorld(again))
	}
	return got
}

func checkCalmed(t *testing.T, w world) world {
	t.Helper()
	got := impl.Calmed(w)
	if want := calmedOf(w); !alikeWorlds(got, want) {
		t.Fatalf("Calmed(%s) = %s, not %s", shownWorld(w), shownWorld(got), shownWorld(want))
	}
	return got
}

func newWorld(t *testing.T, key, shards int64) world {
	t.Helper()
	w, is := impl.NewWorld(key, shards)
	if !is || !isWorld(w) {
		t.Fatalf("NewWorld(%d, %d) = %s, %v", key, shards, shownWorld(w), is)
	}
	return w
}

// passOf allows a Tenant everything, in a World of Key 7.
func passOf(tenant int64) paper { return paperOf(7, tenant, wholeClause()) }

func askOf(tenant, seq int64, items ...item) act {
	return act{Kind: 1, Tenant: tenant, Seq: seq, Items: items, Paper: passOf(tenant)}
}

func askBy(p paper, seq int64, items ...item) act {
	return act{Kind: 1, Tenant: p.Tenant, Seq: seq, Items: items, Paper: p}
}

func actTo(kind, n, tenant, seq int64) act {
	return act{Kind: kind, Shard: n, Tenant: tenant, Seq: seq}
}

func actOf(kind, n int64) act { return act{Kind: kind, Shard: n} }

func decideOf(tenant, seq int64, off bool) act {
	return act{Kind: 4, Tenant: tenant, Seq: seq, Yes: off}
}

func tickOf(n int64) act { return act{Kind: 9, N: n} }

// toEach are Acts of these Kinds to each Shard of a Deal.
func toEach(d deal, kinds ...int64) []act {
	var list []act
	for _, n := range d.Shards {
		for _, kind := range kinds {
			list = append(list, actTo(kind, n, d.Tenant, d.Seq))
		}
	}
	return list
}

// allSteps are the Acts that take a Deal from where it was asked to where it is
// finished.
func allSteps(d deal) []act {
	list := append(toEach(d, 2, 6, 3), decideOf(d.Tenant, d.Seq, false))
	return append(list, toEach(d, 5, 6)...)
}

// done asks for Items of a Tenant, and takes the Deal to its end.
func done(t *testing.T, w world, tenant, seq int64, items ...item) world {
	t.Helper()
	w = checkAct(t, w, askOf(tenant, seq, items...), 0)
	return checkActs(t, w, allSteps(w.Deals[len(w.Deals)-1])...)
}

// onTwo is a World with a Deal of Tenant 3 and Seq 1 that moves Id 5 from Shard
// 0 to Shard 1, and sets 6 in Shard 1, just asked for.
func onTwo(t *testing.T) world {
	t.Helper()
	w := done(t, newWorld(t, 7, 2), 3, 9, setOfItem(5, spot{X: 9}, "old"))
	w = checkAct(t, w, askOf(3, 1, setOfItem(5, spot{X: 200}, "new"), setOfItem(6, spot{X: 200, Y: 200}, "")), 0)
	if d := w.Deals[1]; !slices.Equal(d.Shards, []int64{0, 1}) || d.Parts[0].Items[0] != cutOf(5) || len(d.Parts[1].Items) != 2 {
		t.Fatal(d)
	}
	return w
}

// namedDeals are right ones of Shard 0, none with the name of another one: of
// 10 Tenants, each with many Seqs, and the same ones of each.
func namedDeals(count int) []deal {
	var all []deal
	for i := range int64(count) {
		tenant, seq := 1+i%10, 1+i/10
		all = append(all, deal{Tenant: tenant, Seq: seq, Parts: partsFor(tenant, seq, 1), Shards: []int64{0}, Votes: []int64{i % 3}, State: i % 2 * 2})
	}
	return all
}

// onShards is a Directory with Owns of all Shards up to so many.
func onShards(d directory, count int) directory {
	d = copiedDirectory(d)
	for i := range d.Owns {
		d.Owns[i].Shard = int64(i % count)
	}
	return d
}

func edgeWorlds() []world {
	var all []world
	for count := 1; count <= 4; count++ {
		base := world{Key: 7, Directory: onShards(quartersOfFour(1), count), Shards: make([]shard, count)}
		all = append(all, base)
		for _, key := range []int64{0, 1, greatestSeal - 1, greatestSeal} {
			base.Key = key
			all = append(all, base)
		}
		for _, base.Now = range []int64{0, 1, 2, greatestTime - 1, greatestTime} {
			all = append(all, base)
		}
		base.Deals = []deal{}
		all = append(all, base)
		for _, deals := range []int{1, 2, 99, fullDeals} {
			base.Deals = namedDeals(deals)
			all = append(all, base)
		}
		for _, d := range edgeDirectories() {
			base.Directory = onShards(d, count)
			all = append(all, base)
		}
		base.Directory = onShards(quartersOfFour(1), count)
		for i, s := range []shard{fullestShard(), sixReadies(), syncedOf(sixReadies()), {Records: fullOfAll()}, {Records: fullOfOne(3)}, {Over: manyOver(fullOver)}, {Log: "x", Sure: 1}} {
			base.Shards = make([]shard, count)
			base.Shards[i%count] = s
			all = append(all, base)
			base.Shards = slices.Repeat([]shard{s}, count)
			all = append(all, base)
		}
		base.Deals = []deal{}
		for i, d := range allDeals() {
			if i%3 == 0 && slices.Max(d.Shards) < int64(count) && len(base.Deals) < fullDeals {
				d.Seq = int64(1 + i)
				for at := range d.Parts {
					d.Parts[at].Seq = d.Seq
				}
				base.Deals = append(base.Deals, d)
			}
		}
		all = append(all, base)
	}
	return all
}

// worldBases are right ones, of each of which the wrong ones below have one
// thing that is not right.
func worldBases() []world {
	var all []world
	for _, count := range []int{1, 2, 4} {
		w := world{Now: 5, Key: 7, Directory: onShards(quartersOfFour(3), count), Shards: make([]shard, count), Deals: namedDeals(3)}
		w.Shards[count-1] = sixReadies()
		all = append(all, w)
	}
	return all
}

// withWrongShards have a Shard that is not right, too many of them, or none.
func withWrongShards(w world) []world {
	var all []world
	count := len(w.Shards)
	for i, s := range slices.Concat(spoiledShards(), wrongShards()) {
		if i < 28 || i%9 == 0 {
			made := copiedWorld(w)
			made.Shards[i%count] = s
			all = append(all, made)
		}
	}
	for _, many := range []int{0, 5, 6, 100} {
		made := copiedWorld(w)
		made.Shards = make([]shard, many)
		all = append(all, made)
	}
	return all
}

// withWrongOwners have a Directory that is not right, or that owns a Shard that
// isn't there.
func withWrongOwners(w world) []world {
	var all []world
	for i, d := range wrongDirectories() {
		if i < 10 || i%40 == 0 {
			made := copiedWorld(w)
			made.Directory = d
			all = append(all, made)
		}
	}
	for at := range w.Directory.Owns {
		for n := int64(len(w.Shards)); n <= 4; n++ {
			made := copiedWorld(w)
			made.Directory.Owns[at].Shard = n
			all = append(all, made)
		}
	}
	return all
}

// withWrongDeals have a Deal that is not right, is of a Shard that isn't there,
// or has the name of another one, or too many of them.
func withWrongDeals(w world) []world {
	var all []world
	count := int64(len(w.Shards))
	for i, d := range wrongDeals() {
		if i < 10 || i%60 == 0 {
			made := copiedWorld(w)
			made.Deals[i%len(made.Deals)] = d
			all = append(all, made)
		}
	}
	for i, d := range allDeals() {
		if i%4 == 0 && slices.Max(d.Shards) >= count {
			made := copiedWorld(w)
			made.Deals = append(made.Deals, d)
			all = append(all, made)
		}
	}
	for _, deals := range []int{2, 3, 50, 99} {
		for _, at := range []int{0, 1, deals / 2, deals - 1} {
			made := copiedWorld(w)
			again := namedDeals(deals)[at]
			again.State = 2 - again.State
			made.Deals = append(namedDeals(deals), again)
			all = append(all, made)
		}
	}
	for _, deals := range []int{fullDeals + 1, 1000} {
		made := copiedWorld(w)
		made.Deals = namedDeals(deals)
		all = append(all, made)
	}
	return all
}

func wrongWorlds() []world {
	all := []world{{}, {Key: 7, Directory: directory{Epoch: 1, Owns: []own{{}}}}, {Shards: make([]shard, 1)}}
	for _, w := range worldBases() {
		for _, now := range wrongTimes() {
			made := copiedWorld(w)
			made.Now = now
			all = append(all, made)
		}
		for _, key := range wrongKeys() {
			made := copiedWorld(w)
			made.Key = key
			all = append(all, made)
		}
		all = slices.Concat(all, withWrongShards(w), withWrongOwners(w), withWrongDeals(w))
	}
	return all
}

// oneOfEach are Acts of each Kind there is, and of two there are not.
func oneOfEach() []act {
	list := []act{{}, askOf(60, 60, setOfItem(60, spot{}, "")), decideOf(1, 1, true), tickOf(1), {Kind: 8}, {Kind: 10}}
	for kind := int64(2); kind <= 7; kind++ {
		list = append(list, actTo(kind, 0, 1, 1))
	}
	return list
}

func TestActNumbers(t *testing.T) {
	got := []int64{impl.AcAsk, impl.AcReady, impl.AcVote, impl.AcDecide, impl.AcSettle, impl.AcSync, impl.AcCrash, impl.AcFall, impl.AcTick}
	if !slices.Equal(got, []int64{1, 2, 3, 4, 5, 6, 7, 8, 9}) {
		t.Fatal(got)
	}
}

func TestWorldOkOfRightOnes(t *testing.T) {
	for _, w := range append(edgeWorlds(), worldBases()...) {
		if !isWorld(w) || !impl.WorldOk(w) {
			t.Fatalf("%s is not right", shownWorld(w))
		}
	}
}

func TestWrongWorlds(t *testing.T) {
	for _, w := range wrongWorlds() {
		if isWorld(w) || impl.WorldOk(w) {
			t.Fatalf("%s is right", shownWorld(w))
		}
		if got := impl.All(w); len(got) != 0 {
			t.Fatalf("All(%s) = %v", shownWorld(w), got)
		}
		for _, a := range oneOfEach() {
			if got, code := impl.Happen(w, a); code != noWorld || !alikeWorlds(got, world{}) {
				t.Fatalf("Happen(%s, %v) = %s, %d", shownWorld(w), a, shownWorld(got), code)
			}
		}
		for _, list := range [][]act{nil, {}, oneOfEach(), make([]act, fullActs), make([]act, fullActs+1)} {
			if got, codes := impl.Play(w, list); len(codes) != 0 || !alikeWorlds(got, world{}) {
				t.Fatalf("Play(%s) = %s, %v", shownWorld(w), shownWorld(got), codes)
			}
		}
		if got := impl.Calmed(w); !alikeWorlds(got, world{}) {
			t.Fatalf("Calmed(%s) = %s", shownWorld(w), shownWorld(got))
		}
	}
}

func TestNewWorld(t *testing.T) {
	quarters := []cell{{Level: 1}, {Level: 1, X: 1}, {Level: 1, Y: 1}, {Level: 1, X: 1, Y: 1}}
	for count, shards := range map[int64][]int64{1: {0, 0, 0, 0}, 2: {0, 1, 0, 1}, 3: {0, 1, 2, 0}, 4: {0, 1, 2, 3}} {
		for _, key := range rightKeys() {
			want := world{Key: key, Directory: directory{Epoch: 1}, Shards: make([]shard, count)}
			for i, c := range quarters {
				want.Directory.Owns = append(want.Directory.Owns, own{Cell: c, Shard: shards[i]})
			}
			if got, is := impl.NewWorld(key, count); !is || !alikeWorlds(got, want) || !impl.WorldOk(got) || !isWorld(got) {
				t.Fatalf("NewWorld(%d, %d) = %s, %v", key, count, shownWorld(got), is)
			}
		}
	}
}

func TestNewWorldOfWrongOnes(t *testing.T) {
	counts := []int64{math.MinInt64, math.MinInt64 + 1, -4, -1, 0, 5, 6, 8, 1 << 32, 1<<32 + 1, 1 << 62, math.MaxInt64}
	check := func(key, count int64) {
		if got, is := impl.NewWorld(key, count); is || !alikeWorlds(got, world{}) {
			t.Fatalf("NewWorld(%d, %d) = %s, %v", key, count, shownWorld(got), is)
		}
	}
	for _, count := range counts {
		for _, key := range append(rightKeys(), wrongKeys()...) {
			check(key, count)
		}
	}
	for _, key := range wrongKeys() {
		for count := int64(1); count <= 4; count++ {
			check(key, count)
		}
	}
}

func TestAllNamed(t *testing.T) {
	r := func(tenant, id int64, text string) record { return record{Tenant: tenant, Id: id, Text: text} }
	for _, x := range []struct {
		lists [][]record
		want  []record
	}{
		{[][]record{nil}, nil},
		{[][]record{nil, nil, nil, nil}, nil},
		{[][]record{{r(2, 5, "a")}}, []record{r(2, 5, "a")}},
		{[][]record{{r(2, 5, "a")}, {r(2, 5, "b")}}, []record{r(2, 5, "a")}},
		{[][]record{nil, {r(2, 5, "b")}, nil, {r(2, 5, "c")}}, []record{r(2, 5, "b")}},
		{[][]record{{r(2, 6, "a")}, {r(2, 5, "b")}}, []record{r(2, 5, "b"), r(2, 6, "a")}},
		{[][]record{{r(3, 1, "a")}, {r(2, 9, "b")}, {r(1, 100, "c")}}, []record{r(1, 100, "c"), r(2, 9, "b"), r(3, 1, "a")}},
		{[][]record{{r(3, 5, "a")}, {r(2, 5, "b"), r(3, 5, "b"), r(4, 5, "b")}}, []record{r(2, 5, "b"), r(3, 5, "a"), r(4, 5, "b")}},
		{[][]record{{r(2, 1, "a"), r(2, 4, "a")}, {r(2, 2, "b"), r(2, 4, "b")}, {r(2, 3, "c"), r(2, 4, "c")}, {r(2, 1, "d"), r(2, 2, "d"), r(2, 3, "d"), r(2, 5, "d")}}, []record{r(2, 1, "a"), r(2, 2, "b"), r(2, 3, "c"), r(2, 4, "a"), r(2, 5, "d")}},
	} {
		w := world{Directory: directory{Epoch: 1, Owns: []own{{}}}}
		for _, list := range x.lists {
			w.Shards = append(w.Shards, shard{Records: list})
		}
		if got := impl.All(w); !slices.Equal(got, x.want) {
			t.Errorf("All of %v = %v, not %v", x.lists, got, x.want)
		}
	}
}

// All Shards together may have four times as many as one of them.
func TestAllOfMany(t *testing.T) {
	next := someRule(420)
	for count := 1; count <= 4; count++ {
		for _, ids := range []int64{3, 40, greatestId} {
			for _, many := range []int{0, 1, 30, 396} {
				w := world{Directory: directory{Epoch: 1, Owns: []own{{}}}, Shards: make([]shard, count)}
				for i := range w.Shards {
					w.Shards[i].Records = someRecords(min(many, int(99*ids)/2), 99, ids, next)
				}
				if got, want := impl.All(w), allOf(w); !slices.Equal(got, want) {
					t.Fatalf("All = %v, not %v", got, want)
				}
			}
		}
	}
	for _, w := range edgeWorlds() {
		if got, want := impl.All(w), allOf(w); !slices.Equal(got, want) {
			t.Fatalf("All = %v, not %v", got, want)
		}
	}
	w := newWorld(t, 7, 4)
	for i := range w.Shards {
		for n := range int64(400) {
			w.Shards[i].Records = append(w.Shards[i].Records, record{Tenant: 1 + n/4, Id: 1 + n%4*4 + int64(i)})
		}
		w.Shards[i].Records = w.Shards[i].Records[:396]
	}
	if got := impl.All(w); len(got) != 4*396 || !slices.Equal(got, allOf(w)) {
		t.Fatal(len(got))
	}
}

func TestAskNamedEdges(t *testing.T) {
	w := newWorld(t, 7, 2)
	got := checkAct(t, w, askOf(3, 1, setOfItem(5, spot{X: 200}, "a"), setOfItem(6, spot{}, "b"), setOfItem(7, spot{X: 128, Y: 255}, "")), 0)
	want := deal{Tenant: 3, Seq: 1, Parts: []batch{batchAt(3, 1, setOfItem(6, spot{}, "b")), batchAt(3, 1, setOfItem(5, spot{X: 200}, "a"), setOfItem(7, spot{X: 128, Y: 255}, ""))}, Shards: []int64{0, 1}, Votes: []int64{0, 0}}
	if len(got.Deals) != 1 || !alikeDeals(got.Deals[0], want) {
		t.Fatalf("%v, not %v", got.Deals, want)
	}
	got = checkAct(t, got, askOf(3, greatestId, setOfItem(greatestId, spot{Y: 255}, strings.Repeat("x", 20))), 0)
	got = checkAct(t, got, askOf(99, 1, manyItems(6)...), 0)
	if len(got.Deals) != 3 || got.Deals[1].Seq != greatestId || got.Deals[2].Tenant != 99 {
		t.Fatal(got.Deals)
	}
	one := checkAct(t, newWorld(t, 7, 1), askOf(3, 1, manyItems(6)...), 0)
	if len(one.Deals[0].Parts) != 1 || one.Deals[0].Shards[0] != 0 {
		t.Fatal(one.Deals)
	}
	var items []item
	for i, s := range quarterSpots() {
		items = append(items, setOfItem(int64(9-i), s, ""))
	}
	four := checkAct(t, newWorld(t, 7, 4), askOf(3, 1, items...), 0)
	if d := four.Deals[0]; !slices.Equal(d.Shards, []int64{0, 1, 2, 3}) || len(d.Votes) != 4 || len(d.Parts[3].Items) != 1 {
		t.Fatal(four.Deals)
	}
}

func TestAskOfNoBatch(t *testing.T) {
	w := onTwo(t)
	for i, b := range wrongBatches() {
		a := askOf(b.Tenant, b.Seq, b.Items...)
		if i%2 == 0 {
			a.Paper = passOf(3)
		}
		checkAct(t, w, a, nothing)
	}
	for _, items := range [][]item{nil, {}, manyItems(7), {cutOf(5), setOfItem(5, spot{}, "")}, {setOfItem(6, spot{X: 256}, "")}} {
		checkAct(t, newWorld(t, 7, 2), askOf(3, 5, items...), nothing)
	}
}

// One that is there already, wherever it stands and however it ended.
func TestAskOfADealThatIsThere(t *testing.T) {
	open := onTwo(t)
	off := checkActs(t, open, decideOf(3, 1, true))
	finished := checkActs(t, open, allSteps(open.Deals[1])...)
	for _, w := range []world{open, off, finished} {
		checkAct(t, w, askOf(3, 1, setOfItem(70, spot{}, "")), nothing)
		checkAct(t, w, askOf(3, 9, setOfItem(70, spot{}, "")), nothing)
		checkAct(t, w, askOf(3, 2, setOfItem(70, spot{}, "")), 0)
		checkAct(t, w, askOf(2, 1, setOfItem(70, spot{}, "")), 0)
		checkAct(t, w, askOf(1, 3, setOfItem(70, spot{}, "")), 0)
		checkAct(t, w, askOf(9, 3, setOfItem(70, spot{}, "")), 0)
	}
}

// Step by step, until it is finished: as long as it is not, none of its Ids can
// be asked for by its Tenant; all others can.
func TestAskOfIdsOfWhatIsNotFinished(t *testing.T) {
	w := onTwo(t)
	held := []item{setOfItem(5, spot{}, "mine"), cutOf(5), setOfItem(6, spot{Y: 77}, "")}
	asked := func(code int64) {
		t.Helper()
		for _, i := range held {
			if i.Kind == 1 || code != 0 {
				checkAct(t, w, askOf(3, 2, i), code)
				checkAct(t, w, askOf(3, 2, setOfItem(70, spot{}, ""), i), code)
			}
		}
		checkAct(t, w, askOf(3, 2, setOfItem(70, spot{}, "")), 0)
		checkAct(t, w, askOf(4, 2, setOfItem(5, spot{}, ""), setOfItem(6, spot{}, "")), 0)
	}
	for _, a := range allSteps(w.Deals[1]) {
		asked(nothing)
		off := checkHappened(t, w, decideOf(3, 1, true))
		if off.Deals[1].State == 2 {
			checkAct(t, off, askOf(3, 2, held[0], held[2]), 0)
			checkAct(t, off, askOf(3, 2, held[1]), 0)
		}
		w = checkAct(t, w, a, 0)
	}
	asked(0)
	checkAct(t, w, askOf(3, 2, held[1]), 0)
}

// What is done is not finished before it is Sure in each of its Shards, whatever
// of it is.
func TestFinishedIsSureInEachShard(t *testing.T) {
	w := onTwo(t)
	w = checkActs(t, w, append(toEach(w.Deals[1], 2, 6, 3), decideOf(3, 1, false))...)
	again := askOf(3, 2, setOfItem(5, spot{}, "again"))
	for bits := range 16 {
		made := w
		for n := range int64(2) {
			if bits>>n&1 == 1 {
				made = checkAct(t, made, actTo(5, n, 3, 1), 0)
			}
		}
		for n := range int64(2) {
			if bits>>(2+n)&1 == 1 {
				made = checkAct(t, made, actOf(6, n), 0)
			}
		}
		want := int64(nothing)
		if bits == 15 {
			want = 0
		}
		checkAct(t, made, again, want)
		for n := range int64(2) {
			crashed := checkAct(t, made, actOf(7, n), 0)
			checkAct(t, crashed, again, want)
		}
	}
}

// Behind what is no line, within a line, or of another Deal it doesn't count;
// nor does the last line where Sure lacks a byte of it.
func TestFinishedIsALineOfTheLog(t *testing.T) {
	w := onTwo(t)
	w = checkActs(t, w, append(toEach(w.Deals[1], 2, 6, 3), decideOf(3, 1, false))...)
	first, line := lineOf("2 3 9"), lineOf("2 3 1")
	for _, x := range []struct {
		log         string
		whole, less int64
	}{
		{line, 0, nothing}, {lineOf("3 4 9") + line, 0, nothing}, {line + "x", 0, 0}, {line + line, 0, 0}, {line + lineOf("3 3 1"), 0, 0},
		{"", nothing, nothing}, {"x", nothing, nothing}, {"x" + line, nothing, nothing}, {"\n" + line, nothing, nothing}, {" " + line, nothing, nothing},
		{lineOf("2 3 2"), nothing, nothing}, {lineOf("2 4 1"), nothing, nothing}, {lineOf("3 3 1"), nothing, nothing}, {lineOf("2 3 11"), nothing, nothing},
		{lineOf("2 31 1"), nothing, nothing}, {lineOf("2 1 3"), nothing, nothing}, {lineOf(restOf(readyOf(3, 1, cutOf(5)))), nothing, nothing},
	} {
		made := copiedWorld(w)
		for n := range made.Shards {
			made.Shards[n] = shard{Records: made.Shards[n].Records, Log: first + x.log, Sure: int64(len(first + x.log))}
		}
		checkAct(t, made, askOf(3, 2, setOfItem(5, spot{}, "again")), x.whole)
		made.Shards[1].Sure--
		checkAct(t, made, askOf(3, 2, setOfItem(5, spot{}, "again")), x.less)
	}
}

func TestAskByPapersThatAreNotGenuine(t *testing.T) {
	w := newWorld(t, 7, 2)
	right := askOf(3, 1, setOfItem(5, spot{X: 200}, ""))
	checkAct(t, w, right, 0)
	papers := append(otherPapers(passOf(3)), wrongPapers()...)
	for _, key := range append(rightKeys(), 6, 8) {
		if key != 7 {
			papers = append(papers, paperOf(key, 3, wholeClause()))
		}
	}
	changed := passOf(3)
	changed.Tag ^= 1
	for _, p := range append(papers, changed, paper{Tenant: 3}) {
		a := right
		a.Paper = p
		checkAct(t, w, a, nothing)
	}
	for _, key := range rightKeys() {
		other := w
		other.Key = key
		a := right
		a.Paper = paperOf(key, 3, wholeClause())
		checkAct(t, other, a, 0)
		narrowed, _ := impl.Narrowed(a.Paper, wholeClause())
		checkAct(t, other, askBy(narrowed, 1, right.Items...), 0)
	}
}

func TestAskOfWhatIsNotPermitted(t *testing.T) {
	w := done(t, newWorld(t, 7, 2), 3, 9, setOfItem(5, spot{X: 9}, ""))
	w = done(t, w, 4, 9, setOfItem(5, spot{X: 200, Y: 200}, ""))
	left, right, grid := []cell{{Level: 1}, {Level: 1, Y: 1}}, []cell{{Level: 1, X: 1}, {Level: 1, X: 1, Y: 1}}, []cell{{}}
	paperTo := func(read, write []cell, until int64) paper {
		return paperOf(7, 3, clause{Read: read, Write: write, Until: until})
	}
	stays, moves, away, isNew := setOfItem(5, spot{X: 100}, ""), setOfItem(5, spot{X: 200}, ""), cutOf(5), setOfItem(6, spot{X: 200}, "")
	for _, x := range []struct {
		p    paper
		i    item
		code int64
	}{
		{paperTo(nil, grid, 9), stays, 0}, {paperTo(nil, left, 9), stays, 0}, {paperTo(grid, right, 9), stays, nothing}, {paperTo(grid, nil, 9), stays, nothing},
		{paperTo(nil, grid, 9), moves, 0}, {paperTo(grid, left, 9), moves, nothing}, {paperTo(grid, right, 9), moves, nothing}, {paperTo(nil, slices.Concat(left, right), 9), moves, 0},
		{paperTo(nil, left, 9), away, 0}, {paperTo(nil, right, 9), away, nothing}, {paperTo(nil, left, 9), isNew, nothing}, {paperTo(nil, right, 9), isNew, 0},
		{paperTo(grid, grid, 1), isNew, 0}, {paperTo(grid, grid, 0), isNew, nothing},
		{paperOf(7, 4, wholeClause()), isNew, nothing}, {paperOf(7, 2, wholeClause()), isNew, nothing},
		{paperOf(7, 3, wholeClause(), clause{Write: left, Until: 9}), isNew, nothing}, {paperOf(7, 3, wholeClause(), clause{Write: right, Until: 9}), isNew, 0},
	} {
		a := askBy(x.p, 1, x.i)
		a.Tenant = 3
		checkAct(t, w, a, x.code)
	}
	a := askBy(paperTo(grid, grid, 50), 1, isNew)
	checkAct(t, checkAct(t, w, tickOf(49), 0), a, 0)
	checkAct(t, checkAct(t, w, tickOf(50), 0), a, nothing)
	checkAct(t, checkAct(t, w, tickOf(51), 0), a, nothing)
	checkAct(t, checkAct(t, w, tickOf(greatestTime-1), 0), askOf(3, 1, isNew), 0)
	checkAct(t, checkAct(t, w, tickOf(greatestTime), 0), askOf(3, 1, isNew), nothing)
}

// What one has in all Shards together, and none of what the others have.
func TestAskOfWhatCannotBeDone(t *testing.T) {
	w := newWorld(t, 7, 2)
	checkAct(t, w, askOf(3, 1, cutOf(5)), nothing)
	checkAct(t, w, askOf(3, 1, setOfItem(6, spot{}, ""), cutOf(5)), nothing)
	for i := range int64(20) {
		n := i % 2
		w.Shards[n].Records = append(w.Shards[n].Records, record{Tenant: 3, Id: 10 + i, At: spot{X: 200 * n}})
	}
	checkAct(t, w, askOf(3, 1, setOfItem(5, spot{}, "")), nothing)
	checkAct(t, w, askOf(3, 1, setOfItem(10, spot{X: 255}, ""), cutOf(29)), 0)
	checkAct(t, w, askOf(3, 1, setOfItem(5, spot{}, ""), cutOf(10)), 0)
	checkAct(t, w, askOf(3, 1, setOfItem(5, spot{}, ""), setOfItem(6, spot{}, ""), cutOf(10)), nothing)
	checkAct(t, w, askOf(3, 1, cutOf(5)), nothing)
	checkAct(t, w, askOf(4, 1, cutOf(10)), nothing)
	checkAct(t, w, askOf(4, 1, setOfItem(10, spot{}, "")), 0)
	w.Shards[1].Records = w.Shards[1].Records[:9]
	checkAct(t, w, askOf(3, 1, setOfItem(5, spot{}, "")), 0)
}

// All Tenants together may have more Records than one Shard may, and one of them
// as well: only for this one there is nothing that could be done then.
func TestAskAmongMoreRecordsThanAShardMayHave(t *testing.T) {
	w := newWorld(t, 7, 4)
	for n := range w.Shards {
		for i := range int64(380) {
			w.Shards[n].Records = append(w.Shards[n].Records, record{Tenant: 4 + i/20, Id: 1 + int64(n) + 4*(i%20)})
		}
	}
	d := checkAct(t, w, askOf(3, 1, setOfItem(5, spot{X: 200}, ""), setOfItem(6, spot{}, "")), 0).Deals[0]
	if !slices.Equal(d.Shards, []int64{0, 1}) {
		t.Fatal(d)
	}
	checkAct(t, w, askOf(4, 1, cutOf(1)), nothing)
	for n := range w.Shards {
		w.Shards[n].Records = nil
		for i := range int64(101) {
			w.Shards[n].Records = append(w.Shards[n].Records, record{Tenant: 3, Id: 1 + int64(n) + 4*i})
		}
	}
	checkAct(t, w, askOf(3, 1, cutOf(1)), nothing)
	checkAct(t, w, askOf(4, 1, setOfItem(1, spot{}, "")), 0)
}

// Where one Id is in two Shards, it is that of the first.
func TestAskOfWhatIsInTwoShards(t *testing.T) {
	w := newWorld(t, 7, 2)
	w.Shards[0].Records = []record{{Tenant: 3, Id: 5, At: spot{X: 9}}}
	w.Shards[1].Records = []record{{Tenant: 3, Id: 5, At: spot{X: 200}}}
	d := checkAct(t, w, askOf(3, 1, cutOf(5)), 0).Deals[0]
	if !slices.Equal(d.Shards, []int64{0}) {
		t.Fatal(d)
	}
	left := paperOf(7, 3, clause{Write: []cell{{Level: 1}}, Until: 9})
	right := paperOf(7, 3, clause{Write: []cell{{Level: 1, X: 1}}, Until: 9})
	checkAct(t, w, askBy(left, 1, cutOf(5)), 0)
	checkAct(t, w, askBy(right, 1, cutOf(5)), nothing)
}

func TestAskWithoutRoom(t *testing.T) {
	for _, count := range []int{0, 1, 98, 99, fullDeals} {
		w := newWorld(t, 7, 2)
		w.Deals = namedDeals(count)
		want := int64(0)
		if count == fullDeals {
			want = nothing
		}
		checkAct(t, w, askOf(50, 1, setOfItem(7000, spot{}, "")), want)
	}
	w := newWorld(t, 7, 1)
	for i := range int64(fullDeals) {
		w = checkAct(t, w, askOf(1+i%99, 1+i, setOfItem(1+i, spot{}, "")), 0)
	}
	checkAct(t, w, askOf(50, 500, setOfItem(7000, spot{}, "")), nothing)
	checkAct(t, checkCalm(t, w), askOf(50, 500, setOfItem(7000, spot{}, "")), nothing)
}

func checkHappened(t *testing.T, w world, a act) world {
	t.Helper()
	got, _ := checkHappen(t, w, a)
	return got
}

func TestReadyNamedEdges(t *testing.T) {
	w := onTwo(t)
	got := checkAct(t, w, actTo(2, 1, 3, 1), impl.ShYes)
	if len(got.Shards[1].Readies) != 1 || len(got.Shards[0].Readies) != 0 || !alikeBatches(batch(got.Shards[1].Readies[0]), w.Deals[1].Parts[1]) || !slices.Equal(got.Deals[1].Votes, []int64{0, 0}) || got.Shards[1].Sure != 0 {
		t.Fatal(shownWorld(got))
	}
	again := checkAct(t, got, actTo(2, 1, 3, 1), impl.ShAgain)
	if !alikeWorlds(again, got) {
		t.Fatal(shownWorld(again))
	}
	both := checkAct(t, got, actTo(2, 0, 3, 1), impl.ShYes)
	checkAct(t, both, actTo(2, 0, 3, 1), impl.ShAgain)
	voted := checkActs(t, both, actOf(6, 0), actTo(3, 0, 3, 1))
	if again := checkAct(t, voted, actTo(2, 0, 3, 1), impl.ShAgain); !alikeWorlds(again, voted) {
		t.Fatal(shownWorld(again))
	}
}

// Each reason of Prepared for its no: it is Voted at once, and the Shard is as
// it was.
func TestReadyThatIsRefused(t *testing.T) {
	base := newWorld(t, 7, 2)
	base = checkAct(t, base, askOf(3, 1, setOfItem(5, spot{}, ""), setOfItem(6, spot{X: 200}, "")), 0)
	log := strings.Repeat("x", fullLog)
	for _, x := range []struct {
		s    shard
		code int64
	}{
		{shard{Over: []int64{numberFor(3, 1)}}, impl.ShOver},
		{shard{Over: []int64{numberFor(3, 1)}, Log: log}, impl.ShOver},
		{shard{Readies: []ready{heldReady(3, 2, setOfItem(5, spot{}, ""))}}, impl.ShNo},
		{shard{Readies: readiesOfSets(3, 20)}, impl.ShNo},
		{shard{Records: fullOfOne(3)}, impl.ShNo},
		{shard{Records: fullOfAll()}, impl.ShNo},
		{shard{Readies: manyReadies(100)}, impl.ShNo},
		{shard{Log: log}, impl.ShNo},
		{shard{Log: log[1:]}, impl.ShNo},
		{shard{Readies: []ready{heldReady(3, 1, setOfItem(5, spot{}, ""))}, Over: []int64{numberFor(3, 1)}}, impl.ShAgain},
		{shard{Readies: []ready{heldReady(2, 1, setOfItem(5, spot{}, "")), heldReady(3, 2, setOfItem(6, spot{}, ""))}, Over: []int64{numberFor(3, 2), numberFor(4, 1)}}, impl.ShYes},
	} {
		w := copiedWorld(base)
		w.Shards[0] = x.s
		got := checkAct(t, w, actTo(2, 0, 3, 1), x.code)
		votes := []int64{0, 0}
		if x.code == impl.ShNo || x.code == impl.ShOver {
			votes[0] = 2
		}
		if !slices.Equal(got.Deals[0].Votes, votes) || alikeShards(got.Shards[0], x.s) != (x.code != 0) || !alikeShards(got.Shards[1], shard{}) || got.Deals[0].State != 0 {
			t.Fatal(shownWorld(got))
		}
		// With a Vote that is there already the code is the same, and the Vote stays.
		for _, vote := range []int64{1, 2} {
			w.Deals[0].Votes[0] = vote
			got := checkAct(t, w, actTo(2, 0, 3, 1), x.code)
			if got.Deals[0].Votes[0] != vote || !alikeShards(got.Shards[0], x.s) && x.code != 0 {
				t.Fatal(shownWorld(got))
			}
		}
	}
}

// What is Voted no by Ready can be asked anew once all was forgotten.
func TestReadyAgainAfterAFall(t *testing.T) {
	w := newWorld(t, 7, 1)
	w = checkActs(t, w, askOf(3, 1, setOfItem(5, spot{}, "")), actTo(2, 0, 3, 1), decideOf(3, 1, true), askOf(3, 2, setOfItem(5, spot{}, "")))
	w = checkAct(t, w, actTo(2, 0, 3, 2), impl.ShNo)
	w = checkActs(t, w, actTo(5, 0, 3, 1))
	w = checkAct(t, w, actTo(2, 0, 3, 2), impl.ShYes)
	w = checkActs(t, w, actOf(6, 0))
	checkAct(t, w, actTo(3, 0, 3, 2), nothing)
	w = checkActs(t, w, act{Kind: 8}, actTo(3, 0, 3, 2), decideOf(3, 2, false), actTo(5, 0, 3, 2))
	if w.Deals[1].State != 1 || len(impl.All(w)) != 1 {
		t.Fatal(shownWorld(w))
	}
}

// Of no such Shard, Deal or Part; of a Part whose Deal is none of its Shard.
func TestActsOfWhatIsNotThere(t *testing.T) {
	w := newWorld(t, 7, 4)
	w = checkAct(t, w, askOf(3, 1, setOfItem(5, spot{}, ""), setOfItem(6, spot{Y: 200}, "")), 0)
	off := checkActs(t, w, decideOf(3, 1, true))
	yes := checkActs(t, w, append(toEach(w.Deals[0], 2, 6, 3), decideOf(3, 1, false))...)
	for _, w := range []world{w, off, yes} {
		for _, kind := range []int64{2, 3, 5} {
			for _, n := range append(wrongShardNumbers(), 1, 3, 4, 5) {
				if n != 0 && n != 2 {
					checkAct(t, w, actTo(kind, n, 3, 1), nothing)
				}
			}
		}
		for _, kind := range []int64{6, 7} {
			for _, n := range append(wrongShardNumbers(), 4, 5) {
				checkAct(t, w, actOf(kind, n), nothing)
			}
		}
		for _, kind := range []int64{2, 3, 4, 5} {
			for _, name := range []owner{{3, 2}, {2, 1}, {4, 1}, {1, 3}, {0, 0}, {0, 1}, {3, 0}, {-3, 1}, {3, -1}, {100, 1}, {3, greatestId + 1}, {math.MaxInt64, 1}, {3, math.MinInt64}} {
				for n := range int64(4) {
					a := actTo(kind, n, name.tenant, name.id)
					a.Yes = true
					checkAct(t, w, a, nothing)
				}
			}
		}
	}
	two := newWorld(t, 7, 2)
	for _, kind := range []int64{6, 7} {
		checkAct(t, two, actOf(kind, 2), nothing)
		checkAct(t, two, actOf(kind, 3), nothing)
		checkAct(t, two, actOf(kind, 1), 0)
	}
}

// What is ready without a Deal, or without a Part of it, is neither voted for
// nor settled.
func TestActsOfReadiesWithoutADeal(t *testing.T) {
	w := newWorld(t, 7, 2)
	w.Shards[1] = syncedOf(sixReadies())
	for _, deals := range [][]deal{nil, namedDeals(5)} {
		w.Deals = deals
		for _, r := range w.Shards[1].Readies {
			for _, kind := range []int64{2, 3, 4, 5} {
				checkAct(t, w, actTo(kind, 1, r.Tenant, r.Seq), nothing)
			}
		}
	}
	for state := range int64(3) {
		var deals []deal
		for _, r := range w.Shards[1].Readies {
			deals = append(deals, deal{Tenant: r.Tenant, Seq: r.Seq, Parts: []batch{batch(r)}, Shards: []int64{0}, Votes: []int64{state % 2}, State: state})
		}
		w.Deals = deals
		for _, r := range w.Shards[1].Readies {
			for _, kind := range []int64{2, 3, 5} {
				checkAct(t, w, actTo(kind, 1, r.Tenant, r.Seq), nothing)
			}
		}
	}
}

func TestActsOfNoKind(t *testing.T) {
	w := onTwo(t)
	full := askOf(3, 1, setOfItem(70, spot{}, ""))
	full.N, full.Yes = 1, true
	for _, kind := range []int64{math.MinInt64, -9, -1, 0, 10, 11, 12, 100, 1 << 32, 1<<32 + 1, 1<<32 + 8, math.MaxInt64} {
		full.Kind = kind
		checkAct(t, w, full, nothing)
		checkAct(t, w, act{Kind: kind}, nothing)
	}
}

// Where it is Sealed: not before, and not twice; not of what is decided.
func TestVoteNamedEdges(t *testing.T) {
	w := onTwo(t)
	vote := actTo(3, 1, 3, 1)
	checkAct(t, w, vote, nothing)
	w = checkAct(t, w, actTo(2, 1, 3, 1), 0)
	checkAct(t, w, vote, nothing)
	checkAct(t, checkAct(t, w, actOf(6, 0), 0), vote, nothing)
	checkAct(t, checkAct(t, w, actOf(7, 1), 0), vote, nothing)
	sealed := checkAct(t, w, actOf(6, 1), 0)
	voted := checkAct(t, sealed, vote, 0)
	if !slices.Equal(voted.Deals[1].Votes, []int64{0, 1}) || voted.Deals[1].State != 0 {
		t.Fatal(voted.Deals)
	}
	checkAct(t, voted, vote, nothing)
	checkAct(t, voted, actTo(3, 0, 3, 1), nothing)
	checkAct(t, checkAct(t, sealed, actOf(7, 1), 0), vote, 0)
	fallen := checkAct(t, voted, act{Kind: 8}, 0)
	if !alikeWorlds(fallen, sealed) {
		t.Fatal(shownWorld(fallen))
	}
	checkAct(t, fallen, vote, 0)
	off := checkAct(t, sealed, decideOf(3, 1, true), 0)
	checkAct(t, off, vote, nothing)
	no := copiedWorld(sealed)
	no.Deals[1].Votes[1] = 2
	checkAct(t, no, vote, nothing)
}

func TestDecideNamedEdges(t *testing.T) {
	w := onTwo(t)
	yes, off := decideOf(3, 1, false), decideOf(3, 1, true)
	for _, x := range []struct {
		votes []int64
		state int64
	}{
		{[]int64{0, 0}, 0}, {[]int64{1, 0}, 0}, {[]int64{0, 1}, 0}, {[]int64{1, 1}, 1}, {[]int64{2, 0}, 2}, {[]int64{1, 2}, 2}, {[]int64{2, 1}, 2}, {[]int64{2, 2}, 2},
	} {
		made := copiedWorld(w)
		made.Deals[1].Votes = x.votes
		code := int64(0)
		if x.state == 0 {
			code = nothing
		}
		got := checkAct(t, made, yes, code)
		if got.Deals[1].State != x.state || !slices.Equal(got.Deals[1].Votes, x.votes) {
			t.Fatal(got.Deals)
		}
		put := checkAct(t, made, off, 0)
		if put.Deals[1].State != 2 {
			t.Fatal(put.Deals)
		}
		for _, decided := range []world{got, put} {
			if decided.Deals[1].State != 0 {
				checkAct(t, decided, yes, nothing)
				checkAct(t, decided, off, nothing)
			}
		}
		// Of a Deal it is, and of no Shard.
		yes.Shard, off.Shard = 77, -1
	}
}

func TestSettleNamedEdges(t *testing.T) {
	w := onTwo(t)
	w = checkActs(t, w, actTo(2, 0, 3, 1), actTo(2, 1, 3, 1), actOf(6, 0), actOf(6, 1))
	checkAct(t, w, actTo(5, 0, 3, 1), nothing)
	put := checkActs(t, w, decideOf(3, 1, true), actTo(5, 1, 3, 1))
	if len(put.Shards[1].Readies) != 0 || len(put.Shards[1].Records) != 0 || !slices.Equal(put.Shards[1].Over, []int64{numberFor(3, 1)}) || len(put.Shards[0].Readies) != 1 {
		t.Fatal(shownWorld(put))
	}
	checkAct(t, put, actTo(5, 1, 3, 1), nothing)
	w = checkActs(t, w, actTo(3, 0, 3, 1), actTo(3, 1, 3, 1), decideOf(3, 1, false))
	half := checkAct(t, w, actTo(5, 1, 3, 1), 0)
	if len(half.Shards[1].Readies) != 0 || len(half.Shards[1].Records) != 2 || len(half.Shards[0].Records) != 1 {
		t.Fatal(shownWorld(half))
	}
	if all := impl.All(half); len(all) != 2 || all[0].Text != "old" {
		t.Fatal(all)
	}
	checkAct(t, half, actTo(5, 1, 3, 1), nothing)
	whole := checkAct(t, half, actTo(5, 0, 3, 1), 0)
	if all := impl.All(whole); len(all) != 2 || all[0].Text != "new" || len(whole.Shards[0].Records) != 0 {
		t.Fatal(all)
	}
	// What was not Sure is ready again, and settled again.
	back := checkAct(t, half, actOf(7, 1), 0)
	if !alikeWorlds(back, w) || !alikeWorlds(checkAct(t, back, actTo(5, 1, 3, 1), 0), half) {
		t.Fatal(shownWorld(back))
	}
}

// What was put off ahead of its Ready is over; without room nothing is settled.
func TestSettleOfWhatWasNeverReady(t *testing.T) {
	w := checkActs(t, onTwo(t), decideOf(3, 1, true))
	got := checkAct(t, w, actTo(5, 1, 3, 1), 0)
	if !slices.Equal(got.Shards[1].Over, []int64{numberFor(3, 1)}) || got.Shards[1].Log != lineOf("3 3 1") || got.Shards[1].Sure != 0 {
		t.Fatal(shown(got.Shards[1]))
	}
	checkAct(t, got, actTo(5, 1, 3, 1), nothing)
	for _, s := range []shard{{Over: manyOver(fullOver)}, {Log: strings.Repeat("x", fullLog)}, {Over: []int64{numberFor(3, 1)}}} {
		made := copiedWorld(w)
		made.Shards[1] = s
		checkAct(t, made, actTo(5, 1, 3, 1), nothing)
		made.Shards[1].Readies = []ready{ready(w.Deals[1].Parts[1])}
		if len(s.Over) == 1 {
			checkAct(t, made, actTo(5, 1, 3, 1), 0)
		} else {
			checkAct(t, made, actTo(5, 1, 3, 1), nothing)
		}
	}
	// Done without a Ready is nothing.
	made := copiedWorld(w)
	made.Deals[1].State, made.Deals[1].Votes = 1, []int64{1, 1}
	checkAct(t, made, actTo(5, 1, 3, 1), nothing)
}

// With nothing, with some and with all of Log within Sure.
func TestSyncAndCrash(t *testing.T) {
	w := checkActs(t, onTwo(t), actTo(2, 1, 3, 1))
	sure := checkAct(t, w, actOf(6, 1), 0)
	if sure.Shards[1].Sure != int64(len(w.Shards[1].Log)) || sure.Shards[1].Sure == 0 {
		t.Fatal(shownWorld(sure))
	}
	if again := checkAct(t, sure, actOf(6, 1), 0); !alikeWorlds(again, sure) {
		t.Fatal(shownWorld(again))
	}
	if all := checkAct(t, sure, actOf(7, 1), 0); !alikeWorlds(all, sure) {
		t.Fatal(shownWorld(all))
	}
	if none := checkAct(t, w, actOf(7, 1), 0); !alikeShards(none.Shards[1], shard{}) || !alikeShards(none.Shards[0], w.Shards[0]) || !slices.EqualFunc(none.Deals, w.Deals, alikeDeals) {
		t.Fatal(shownWorld(none))
	}
	some := checkActs(t, sure, askOf(4, 1, setOfItem(5, spot{X: 200}, "")), actTo(2, 1, 4, 1))
	some = checkAct(t, some, actOf(7, 1), 0)
	if !alikeShards(some.Shards[1], sure.Shards[1]) || len(some.Deals) != 3 {
		t.Fatal(shownWorld(some))
	}
	for _, s := range edgeShards()[:25] {
		made := copiedWorld(w)
		made.Shards[0] = s
		checkAct(t, made, actOf(7, 0), 0)
		checkAct(t, made, actOf(6, 0), 0)
	}
	full := sixReadies()
	for full.Sure = 0; full.Sure <= int64(len(full.Log)); full.Sure += 7 {
		made := copiedWorld(w)
		made.Shards[0] = full
		checkAct(t, made, actOf(7, 0), 0)
	}
}

func TestFallForgetsWhatIsOpen(t *testing.T) {
	none := newWorld(t, 7, 1)
	if got := checkAct(t, none, act{Kind: 8}, 0); !alikeWorlds(got, none) {
		t.Fatal(shownWorld(got))
	}
	for _, w := range edgeWorlds() {
		got := checkAct(t, w, act{Kind: 8}, 0)
		for i, d := range got.Deals {
			if d.State == 0 && !isAllOf(d.Votes, 0) || d.State != 0 && !alikeDeals(d, w.Deals[i]) {
				t.Fatalf("%v fell as %v", w.Deals[i], d)
			}
		}
		if !slices.EqualFunc(got.Shards, w.Shards, alikeShards) || got.Now != w.Now {
			t.Fatal(shownWorld(got))
		}
	}
}

func TestTickNamedEdges(t *testing.T) {
	w := onTwo(t)
	for _, x := range []struct{ now, n, then int64 }{
		{0, 1, 1}, {1, 1, 2}, {0, 0, -1}, {5, 0, -1}, {5, -1, -1}, {5, -5, -1}, {5, math.MinInt64, -1}, {5, 7, 12},
		{0, greatestTime, greatestTime}, {0, greatestTime + 1, -1}, {1, greatestTime - 1, greatestTime}, {1, greatestTime, -1},
		{greatestTime - 1, 1, greatestTime}, {greatestTime - 1, 2, -1}, {greatestTime, 1, -1}, {greatestTime, 0, -1}, {greatestTime, -1, -1},
		{0, math.MaxInt64, -1}, {1, math.MaxInt64, -1}, {greatestTime, math.MaxInt64, -1}, {5, 1 << 32, -1}, {5, 1<<32 + 1, -1},
	} {
		w.Now = x.now
		code, then := int64(0), x.then
		if then < 0 {
			code, then = nothing, x.now
		}
		got := checkAct(t, w, tickOf(x.n), code)
		if got.Now != then || !slices.EqualFunc(got.Deals, w.Deals, alikeDeals) {
			t.Errorf("of %d and %d: %d", x.now, x.n, got.Now)
		}
	}
}

// A worldRule tells of how few Shards, Tenants, Ids and Seqs a script is.
type worldRule struct{ shards, tenants, ids, seqs int64 }

func worldRules() []worldRule {
	return []worldRule{{1, 1, 6, 30}, {2, 2, 8, 60}, {3, 3, 12, 100}, {4, 2, 30, 200}, {4, 25, 60, 9}, {2, 99, greatestId, greatestId}, {4, 1, 4, 60}}
}

// nextStep is what a Deal waits for; no Act at all where there is nothing.
func nextStep(w world, d deal) act {
	for i, n := range d.Shards {
		_, isReady := hasReady(w.Shards[n], d.Tenant, d.Seq)
		isSure, isWanted := w.Shards[n].Sure == int64(len(w.Shards[n].Log)), d.State == 0 && d.Votes[i] == 0
		switch {
		case d.State != 0 && isReady:
			return actTo(5, n, d.Tenant, d.Seq)
		case isWanted && !isReady:
			return actTo(2, n, d.Tenant, d.Seq)
		case !isSure:
			return actOf(6, n)
		case isWanted:
			return actTo(3, n, d.Tenant, d.Seq)
		}
	}
	if d.State == 0 {
		return decideOf(d.Tenant, d.Seq, false)
	}
	return act{}
}

// somePass is mostly one that allows all.
func somePass(w world, tenant int64, next func(below int64) int64) paper {
	c := wholeClause()
	key := w.Key
	switch next(16) {
	case 0:
		key = (key + 1) % greatestSeal
	case 1:
		tenant = tenant%99 + 1
	case 2:
		c.Until = min(w.Now+next(3), greatestTime)
	case 3, 4:
		c.Write = []cell{{Level: 1, X: next(2), Y: next(2)}, {Level: 1, X: next(2), Y: next(2)}}
	case 5:
		return paperOf(key, tenant, c, wholeClause())
	}
	return paperOf(key, tenant, c)
}

func someAsk(w world, rule worldRule, next func(below int64) int64) act {
	tenant := 1 + next(rule.tenants)
	b := someBatch(ofTenant(allOf(w), tenant), 1, rule.ids, next)
	return act{Kind: 1, Tenant: tenant, Seq: 1 + next(rule.seqs), Items: b.Items, Paper: somePass(w, tenant, next)}
}

// someAct is mostly what one of the last Deals waits for. What is off may wait,
// so that its Readies stand in the way of others.
func someAct(w world, rule worldRule, next func(below int64) int64) act {
	if len(w.Deals) == 0 {
		return someAsk(w, rule, next)
	}
	d := w.Deals[len(w.Deals)-1-int(next(int64(min(len(w.Deals), 5))))]
	waits := nextStep(w, d)
	switch luck := next(24); {
	case luck == 0:
		return decideOf(d.Tenant, d.Seq, true)
	case luck < 4:
		a := act{Kind: next(11), Shard: next(5) - 1, Tenant: d.Tenant, Seq: d.Seq, N: next(9) - 1, Yes: next(4) == 0}
		if next(2) > 0 {
			a.Shard = d.Shards[next(int64(len(d.Shards)))]
		}
		return a
	case luck < 6 || waits.Kind == 0 || d.State == 2 && next(4) > 0:
		return someAsk(w, rule, next)
	}
	return waits
}

// checkWitnessed asks that what is there in calm is all that was asked of the
// Deals that are done, one after the other, and nothing of the others.
func checkWitnessed(t *testing.T, calm world, asked []batch) {
	t.Helper()
	held := map[owner]record{}
	for i, d := range calm.Deals {
		if d.State != 1 {
			continue
		}
		for _, one := range asked[i].Items {
			delete(held, owner{d.Tenant, one.Id})
			if one.Kind == 1 {
				held[owner{d.Tenant, one.Id}] = record{Tenant: d.Tenant, Id: one.Id, At: one.At, Text: one.Text}
			}
		}
	}
	if got, want := impl.All(calm), inTurns(held); !slices.Equal(got, want) {
		t.Fatalf("All(%s) = %v, not %v", shownWorld(calm), got, want)
	}
	grid := shardsIn(calm.Directory)
	for n, s := range calm.Shards {
		for _, r := range s.Records {
			if grid.of(r.At) != int64(n) {
				t.Fatalf("%v is in Shard %d of %s", r, n, shownWorld(calm))
			}
		}
	}
}

// The promise, act by act.
func TestScriptsOfAWorld(t *testing.T) {
	codes, states := map[[2]int64]int{}, map[int64]int{}
	for seed, rule := range worldRules() {
		for script := range uint32(14) {
			next := someRule(430 + 100*uint32(seed) + script)
			w := newWorld(t, 7, rule.shards)
			var asked []batch
			for i := range 100 {
				a := someAct(w, rule, next)
				made, code := checkHappen(t, w, a)
				if a.Kind == 1 && code == 0 {
					asked = append(asked, batchAt(a.Tenant, a.Seq, a.Items...))
				}
				codes[[2]int64{a.Kind, code}]++
				w = made
				if i%10 == 9 {
					checkWitnessed(t, checkCalm(t, w), asked)
				}
			}
			for _, d := range checkCalmed(t, w).Deals {
				states[d.State]++
			}
		}
	}
	for kind := int64(1); kind <= 9; kind++ {
		if codes[[2]int64{kind, 0}] < 50 || kind < 6 && codes[[2]int64{kind, nothing}] < 50 {
			t.Fatalf("%v: the rule tells too little of %d", codes, kind)
		}
	}
	if codes[[2]int64{2, 1}] < 20 || codes[[2]int64{2, 3}] < 20 || states[1] < 500 || states[2] < 200 {
		t.Fatalf("%v, %v: the rule tells too little", codes, states)
	}
}

// Whoever falls, and whenever: of what moves from one Shard to the other there
// is all in calm, or nothing.
func TestWhoeverFallsWheneverItIs(t *testing.T) {
	w := onTwo(t)
	was, ended := impl.All(w), map[int64]int{}
	end := impl.All(checkActs(t, w, allSteps(w.Deals[1])...))
	steps := allSteps(w.Deals[1])
	for first := range len(steps) + 1 {
		for bits := range 8 {
			made := w
			if first > 0 {
				made = checkActs(t, w, steps[:first]...)
			}
			for n := range int64(2) {
				if bits>>n&1 == 1 {
					made = checkAct(t, made, actOf(7, n), 0)
				}
			}
			if bits >= 4 {
				made = checkAct(t, made, act{Kind: 8}, 0)
			}
			calm := checkCalm(t, made)
			checkCalmed(t, made)
			ended[calm.Deals[1].State]++
			// And where it is put off ahead of the calm, it stays off, if it was open.
			put := checkCalm(t, checkHappened(t, made, decideOf(3, 1, true)))
			if all := impl.All(put); made.Deals[1].State == 1 && !slices.Equal(all, end) || made.Deals[1].State == 0 && !slices.Equal(all, was) {
				t.Fatalf("%s became %v", shownWorld(made), all)
			}
			if all := impl.All(calm); !slices.Equal(all, end) {
				t.Fatalf("%s became %v", shownWorld(made), all)
			}
		}
	}
	if ended[1] != 8*(len(steps)+1) {
		t.Fatal(ended)
	}
}

// Ahead of the calm each set of Shards crashes, and all Deals are forgotten or
// not, at the end of scripts of any length.
func TestCalmWhateverFell(t *testing.T) {
	for seed, rule := range worldRules() {
		for script := range uint32(6) {
			next := someRule(1200 + 100*uint32(seed) + script)
			w := newWorld(t, 7, rule.shards)
			for range 20 + 30*script {
				w, _ = impl.Happen(w, someAct(w, rule, next))
			}
			for bits := range 2 << rule.shards {
				made := w
				for n := range rule.shards {
					if bits>>n&1 == 1 {
						made, _ = impl.Happen(made, actOf(7, n))
					}
				}
				if bits>>rule.shards == 1 {
					made, _ = impl.Happen(made, act{Kind: 8})
				}
				checkCalm(t, made)
			}
		}
	}
}

// In calm the Deals come in order: the first of two that stand in each other's
// way is done, as the other one would be without it.
func TestCalmedInOrder(t *testing.T) {
	w := newWorld(t, 7, 1)
	var items []item
	for i := range int64(18) {
		items = append(items, setOfItem(1+i, spot{X: i}, ""))
	}
	for seq := range int64(3) {
		w = done(t, w, 3, 50+seq, items[6*seq:6*seq+6]...)
	}
	two, three := items[:0:0], items[:0:0]
	for i := range int64(3) {
		two, three = append(two, setOfItem(30+i, spot{}, "")), append(three, setOfItem(40+i, spot{}, ""))
	}
	first := checkAct(t, w, askOf(3, 1, two[:2]...), 0)
	first = checkAct(t, first, askOf(3, 2, three[:2]...), 0)
	calm := checkCalmed(t, first)
	if calm.Deals[3].State != 1 || calm.Deals[4].State != 2 || len(impl.All(calm)) != 20 {
		t.Fatal(shownWorld(calm))
	}
	// What the last one has made ready stands in the way of the first.
	last := checkActs(t, first, actTo(2, 0, 3, 2))
	calm = checkCalmed(t, last)
	if calm.Deals[3].State != 2 || calm.Deals[4].State != 1 || len(impl.All(calm)) != 20 {
		t.Fatal(shownWorld(calm))
	}
	checkCalm(t, calm)
}

// Worlds that no script makes: Calmed is what its words say, though not all of
// it may be finished then.
func TestCalmedOfAnyWorlds(t *testing.T) {
	for i, w := range append(edgeWorlds(), worldBases()...) {
		if len(w.Deals) < 5 || i%5 == 0 {
			checkCalmed(t, w)
		}
	}
	base := newWorld(t, 7, 2)
	parts := []batch{batchAt(3, 8, setOfItem(5, spot{}, ""), cutOf(90)), batchAt(3, 8, setOfItem(6, spot{X: 200}, ""))}
	held := []record{{Tenant: 3, Id: 90}}
	for _, votes := range numbersFrom(0, 2, 2) {
		for state := range int64(3) {
			for _, s := range []shard{{}, {Records: held}, {Records: held, Readies: []ready{ready(parts[0])}}, {Records: held, Over: []int64{numberFor(3, 8)}}, {Over: manyOver(fullOver)}, {Records: held, Log: strings.Repeat("x", fullLog)}} {
				w := copiedWorld(base)
				w.Deals = []deal{{Tenant: 3, Seq: 8, Parts: parts, Shards: []int64{0, 1}, Votes: votes, State: state}}
				w.Shards[0] = s
				if isDeal(w.Deals[0]) {
					checkCalmed(t, w)
				}
			}
		}
	}
}

func checkPlay(t *testing.T, w world, list []act) world {
	t.Helper()
	got, codes := impl.Play(w, list)
	want := copiedWorld(w)
	var wantCodes []int64
	for _, a := range list {
		made, code := impl.Happen(want, a)
		want, wantCodes = made, append(wantCodes, code)
	}
	if !alikeWorlds(got, want) || !slices.Equal(codes, wantCodes) {
		t.Fatalf("Play(%s, %v) = %s, %v, not %s, %v", shownWorld(w), list, shownWorld(got), codes, shownWorld(want), wantCodes)
	}
	return got
}

func TestPlayIsHappenOneByOne(t *testing.T) {
	for seed, rule := range worldRules() {
		next := someRule(1400 + uint32(seed))
		first := newWorld(t, 7, rule.shards)
		for _, count := range []int{0, 1, 2, 20, 199, fullActs} {
			var list []act
			w := first
			for range count {
				a := someAct(w, rule, next)
				w, _ = impl.Happen(w, a)
				list = append(list, a)
			}
			if got := checkPlay(t, first, list); !alikeWorlds(got, w) {
				t.Fatalf("%s, not %s", shownWorld(got), shownWorld(w))
			}
			slices.Reverse(list)
			checkPlay(t, first, list)
			checkPlay(t, w, list)
			checkCalm(t, w)
		}
	}
}

func TestPlayNamedEdges(t *testing.T) {
	w := onTwo(t)
	for _, list := range [][]act{nil, {}} {
		if got, codes := impl.Play(w, list); len(codes) != 0 || !alikeWorlds(got, w) {
			t.Fatal(shownWorld(got), codes)
		}
	}
	got, codes := impl.Play(w, slices.Repeat([]act{tickOf(1)}, fullActs))
	if got.Now != fullActs || len(codes) != fullActs || !isAllOf(codes, 0) {
		t.Fatal(got.Now, codes)
	}
	for _, count := range []int{fullActs + 1, fullActs + 2, 1000} {
		for _, a := range []act{{}, tickOf(1)} {
			if got, codes := impl.Play(w, slices.Repeat([]act{a}, count)); len(codes) != 0 || !alikeWorlds(got, world{}) {
				t.Fatal(shownWorld(got), codes)
			}
		}
	}
	// What says no leaves nothing behind, and what comes after it still happens.
	got, codes = impl.Play(w, []act{{}, actTo(2, 1, 3, 1), actTo(2, 1, 3, 1), actTo(3, 1, 3, 1), actOf(6, 1), actTo(3, 1, 3, 1), {Kind: 10}, decideOf(3, 1, false), decideOf(3, 1, true)})
	if !slices.Equal(codes, []int64{9, 0, 1, 9, 0, 0, 9, 9, 0}) || got.Deals[1].State != 2 || got.Deals[1].Votes[1] != 1 {
		t.Fatal(shownWorld(got), codes)
	}
}

// Scripts that go on until there is room for no more Deals: the promise holds
// for as long as they are.
func TestVeryLongScripts(t *testing.T) {
	for seed, rule := range worldRules() {
		next := someRule(1500 + uint32(seed))
		w := newWorld(t, 7, rule.shards)
		for range 2500 {
			w, _ = impl.Happen(w, someAct(w, rule, next))
			if len(w.Deals) == fullDeals {
				break
			}
		}
		if len(w.Deals) < 30 || !isWorld(w) {
			t.Fatalf("%d Deals", len(w.Deals))
		}
		checkCalm(t, w)
	}
}

func roomyWorld(w world) world {
	w.Directory = roomyDirectory(w.Directory)
	shards := make([]shard, 0, len(w.Shards)+2)
	for _, s := range w.Shards {
		shards = append(shards, roomyShard(s))
	}
	w.Shards = append(shards, shard{Log: "room"}, shard{Sure: 77})[:len(w.Shards)]
	deals := make([]deal, 0, len(w.Deals)+2)
	for _, d := range w.Deals {
		deals = append(deals, roomyDeal(d))
	}
	w.Deals = append(deals, deal{Tenant: 77}, deal{Seq: 78})[:len(w.Deals)]
	return w
}

func isSameWorld(w, was world) bool {
	for i, s := range was.Shards {
		if !isAsItWas(w.Shards[i], s) {
			return false
		}
	}
	for i, d := range was.Deals {
		if !isSameDeal(w.Deals[i], d) {
			return false
		}
	}
	room, dealRoom := w.Shards[len(w.Shards):len(w.Shards)+2], w.Deals[len(w.Deals):len(w.Deals)+2]
	return w.Now == was.Now && w.Key == was.Key && isSameDirectory(w.Directory, was.Directory) && len(w.Shards) == len(was.Shards) && len(w.Deals) == len(was.Deals) &&
		alikeShards(room[0], shard{Log: "room"}) && alikeShards(room[1], shard{Sure: 77}) && alikeDeals(dealRoom[0], deal{Tenant: 77}) && alikeDeals(dealRoom[1], deal{Seq: 78})
}

func roomyAct(a act) act {
	a.Items = roomyBatch(batch{Items: a.Items}).Items
	a.Paper = roomyPaper(a.Paper)
	return a
}

func isSameAct(t *testing.T, a, was act) bool {
	t.Helper()
	isAsMade(t, a.Paper, was.Paper, roomyClause(clause{}), clause{})
	return isSameBatch(batch{Items: a.Items}, batch{Items: was.Items}) && a.Kind == was.Kind && a.Shard == was.Shard &&
		a.Tenant == was.Tenant && a.Seq == was.Seq && a.N == was.N && a.Yes == was.Yes
}

func scrawlWorld(w world) {
	for _, s := range w.Shards {
		wipeShard(s)
	}
	for _, d := range w.Deals {
		scrawlDeal(d)
	}
	wipe(w.Directory.Owns)
	wipe(w.Shards)
	wipe(w.Deals)
}

// A worldAnswer is all that is answered of one World, with some Acts.
type worldAnswer struct {
	Made    []world
	Codes   []int64
	Records []record
}

func worldAnswers(w world, list []act) worldAnswer {
	var all worldAnswer
	for _, a := range list {
		made, code := impl.Happen(w, a)
		all.Made, all.Codes = append(all.Made, made), append(all.Codes, code)
	}
	made, codes := impl.Play(w, list)
	all.Codes = append(all.Codes, codes...)
	scrawl(codes)
	none, _ := impl.Play(w, nil)
	all.Made = append(all.Made, made, none, impl.Calmed(w))
	all.Records = impl.All(w)
	impl.WorldOk(w)
	return all
}

func (all worldAnswer) alike(other worldAnswer) bool {
	return slices.EqualFunc(all.Made, other.Made, alikeWorlds) && slices.Equal(all.Codes, other.Codes) && slices.Equal(all.Records, other.Records)
}

func (all worldAnswer) copied() worldAnswer {
	made := slices.Clone(all.Made)
	for i, w := range made {
		made[i] = copiedWorld(w)
	}
	return worldAnswer{made, slices.Clone(all.Codes), slices.Clone(all.Records)}
}

func (all worldAnswer) scrawled() {
	for _, w := range all.Made {
		scrawlWorld(w)
	}
	wipe(all.Records)
}

// worldCases are Worlds, right and wrong, each with Acts that do something in
// it and that don't.
func worldCases(t *testing.T, seed uint32) ([]world, [][]act) {
	t.Helper()
	var all []world
	var lists [][]act
	next := someRule(seed)
	for _, rule := range worldRules() {
		w := newWorld(t, 7, rule.shards)
		for range 6 {
			for range 12 {
				w, _ = impl.Happen(w, someAct(w, rule, next))
			}
			list := []act{someAsk(w, rule, next), someAsk(w, rule, next)}
			for range 8 {
				list = append(list, someAct(w, rule, next))
			}
			for _, n := range w.Deals[len(w.Deals)-1].Shards {
				list = append(list, actOf(6, n), actOf(7, n))
			}
			all, lists = append(all, w), append(lists, list)
		}
	}
	edge, wrong := edgeWorlds(), wrongWorlds()
	for i := range 30 {
		all = append(all, edge[i*len(edge)/30], wrong[i*len(wrong)/30])
		lists = append(lists, oneOfEach(), oneOfEach())
	}
	return all, lists
}

func TestWorldArgumentsStay(t *testing.T) {
	all, lists := worldCases(t, 1600)
	for i, was := range all {
		w := roomyWorld(was)
		var list []act
		for _, a := range lists[i] {
			list = append(list, roomyAct(a))
		}
		list = append(list, roomyAct(act{Kind: 77}))[:len(list)]
		worldAnswers(w, list).scrawled()
		if !isSameWorld(w, was) {
			t.Fatalf("%s was changed, or the room behind it", shownWorld(was))
		}
		for j, a := range lists[i] {
			if !isSameAct(t, list[j], a) {
				t.Fatalf("%v was changed, or the room behind it", a)
			}
		}
		if list[:len(list)+1][len(list)].Kind != 77 {
			t.Fatal("the room behind the Acts was changed")
		}
	}
}

// What is written into an argument later, or into another answer, is in none.
func TestWorldAnswersAreNew(t *testing.T) {
	all, lists := worldCases(t, 1700)
	for i, was := range all {
		w := roomyWorld(was)
		var list []act
		for _, a := range lists[i] {
			list = append(list, roomyAct(a))
		}
		got := worldAnswers(w, list)
		want := got.copied()
		worldAnswers(w, list).scrawled()
		scrawlWorld(w)
		for _, a := range list {
			wipe(a.Items)
			spoilPaper(a.Paper)
		}
		if !got.alike(want) {
			t.Fatalf("an answer of %s shares its memory", shownWorld(was))
		}
		for j := range got.Made {
			scrawlWorld(got.Made[j])
			got.Made[j] = want.Made[j]
			if !got.alike(want) {
				t.Fatalf("answer %d of %s shares its memory", j, shownWorld(was))
			}
		}
	}
}

// A span is where a list lies, with the room behind it.
type span struct{ from, past uintptr }

// spansIn are those of all lists in a value, however deep.
func spansIn(v reflect.Value) []span {
	var all []span
	switch v.Kind() {
	case reflect.Struct:
		for i := range v.NumField() {
			all = append(all, spansIn(v.Field(i))...)
		}
	case reflect.Slice:
		if v.Cap() > 0 {
			from := v.Pointer()
			all = append(all, span{from, from + uintptr(v.Cap())*v.Type().Elem().Size()})
		}
		for i := range v.Len() {
			all = append(all, spansIn(v.Index(i))...)
		}
	}
	return all
}

// checkApart asks that no two lists of these values lie in the same place.
func checkApart(t *testing.T, of world, values ...any) {
	t.Helper()
	var all []span
	for _, v := range values {
		all = append(all, spansIn(reflect.ValueOf(v))...)
	}
	slices.SortFunc(all, func(a, b span) int { return int(int64(a.from) - int64(b.from)) })
	for i := 1; i < len(all); i++ {
		if all[i].from < all[i-1].past {
			t.Fatalf("two lists that are answered of %s share their memory", shownWorld(of))
		}
	}
}

// No list of an answer shares its memory with another one of the same answer, or
// of what was handed in, also where that shares its own.
func TestWorldListsShareNoMemory(t *testing.T) {
	all, lists := worldCases(t, 1800)
	for i, w := range all {
		before := copiedWorld(w)
		for _, a := range lists[i] {
			made, _ := impl.Happen(before, a)
			checkApart(t, w, made, before, a)
		}
		made, codes := impl.Play(before, lists[i])
		checkApart(t, w, made, codes, before, lists[i])
		checkApart(t, w, impl.Calmed(before), impl.All(before), before)
	}
	for count := int64(1); count <= 4; count++ {
		w, _ := impl.NewWorld(7, count)
		other, _ := impl.NewWorld(7, count)
		checkApart(t, w, w, other)
	}
	s := sixReadies()
	d := dealFor([]int64{0, 1, 2, 3}, []int64{0, 1, 2, 3}, 0)
	d.Votes = d.Shards[:1:1]
	d.Shards, d.Parts = d.Shards[:1], d.Parts[:1]
	other := d
	other.Tenant, other.Parts = 4, partsFor(4, 8, 1)
	other.Parts[0].Items = d.Parts[0].Items
	w := world{Directory: onShards(quartersOfFour(1), 4), Shards: []shard{s, s, s, s}, Deals: []deal{d, other}}
	for _, a := range append(oneOfEach(), actTo(2, 0, 3, 8), actTo(3, 0, 3, 8), decideOf(3, 8, true), actOf(6, 3), actOf(7, 3)) {
		made, code := impl.Happen(w, a)
		if code == noWorld {
			t.Fatal(a)
		}
		checkApart(t, w, made)
	}
	played, codes := impl.Play(w, oneOfEach())
	checkApart(t, w, played, codes)
	checkApart(t, w, impl.Calmed(w), impl.All(w))
}

// Nothing of the memory that empty lists were cut from is answered.
func TestWorldOfEmptyLists(t *testing.T) {
	deals, records, items := namedDeals(3), ownOf(7, 2), sixItems()
	w := newWorld(t, 7, 1)
	w.Deals, w.Shards[0].Records = deals[:0], records[:0]
	list := []act{{Kind: 1, Items: items[:0]}, askOf(3, 1, setOfItem(5, spot{}, "")), {Kind: 8}, actOf(6, 0), actOf(7, 0), {}}
	worldAnswers(w, list).scrawled()
	if !slices.EqualFunc(deals, namedDeals(3), alikeDeals) || !slices.Equal(records, ownOf(7, 2)) || !slices.Equal(items, sixItems()) {
		t.Fatal(deals, records, items)
	}
}

// Two who go on from one World don't know of each other.
func TestTwoGoOnFromOneWorld(t *testing.T) {
	base := checkActs(t, onTwo(t), actTo(2, 0, 3, 1), actOf(6, 0))
	ready := checkActs(t, base, actTo(2, 1, 3, 1))
	voted := checkActs(t, base, actTo(3, 0, 3, 1))
	off := checkActs(t, base, decideOf(3, 1, true))
	asked := checkActs(t, base, askOf(4, 1, setOfItem(5, spot{}, "")))
	other := checkActs(t, base, askOf(5, 1, setOfItem(5, spot{}, "")))
	crashed := checkActs(t, base, actOf(7, 1), tickOf(5))
	if len(base.Deals) != 2 || base.Deals[1].State != 0 || !isAllOf(base.Deals[1].Votes, 0) || base.Now != 0 || len(base.Shards[1].Readies) != 0 {
		t.Fatal(shownWorld(base))
	}
	if len(ready.Shards[1].Readies) != 1 || voted.Deals[1].Votes[0] != 1 || off.Deals[1].State != 2 || asked.Deals[2].Tenant != 4 || other.Deals[2].Tenant != 5 || crashed.Now != 5 {
		t.Fatal(shownWorld(ready), shownWorld(voted), shownWorld(off), shownWorld(asked), shownWorld(other), shownWorld(crashed))
	}
	for _, w := range []world{base, ready, voted, off, asked, other, crashed} {
		checkCalm(t, w)
	}
}

// What was asked ahead of it, or is asked beside it, leaves nothing behind.
func TestWorldsHangOnTheirArgumentsAlone(t *testing.T) {
	all, lists := worldCases(t, 1900)
	var want []worldAnswer
	for i, w := range all {
		want = append(want, worldAnswers(w, lists[i]))
	}
	var workers sync.WaitGroup
	for worker := range 8 {
		workers.Go(func() {
			for i := range all {
				n := (i*(2*worker+1) + worker) % len(all)
				if !worldAnswers(all[n], lists[n]).alike(want[n]) {
					t.Errorf("the answers of %s are others", shownWorld(all[n]))
				}
			}
		})
	}
	workers.Wait()
}

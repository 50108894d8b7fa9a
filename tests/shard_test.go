package tests

import (
	"fmt"
	"math"
	"slices"
	"strings"
	"sync"
	"testing"

	"loop.example/g00301/impl"
)

type shard = impl.Shard
type ready = impl.Ready

const (
	fullLog  = 100000
	fullOver = 400
)

func batchAt(tenant, seq int64, items ...item) batch {
	return batch{Tenant: tenant, Seq: seq, Items: items}
}

func heldReady(tenant, seq int64, items ...item) ready {
	return ready{Tenant: tenant, Seq: seq, Items: items}
}

func numberFor(tenant, seq int64) int64 { return tenant*1000000 + seq }

func alikeReadies(a, b ready) bool {
	return a.Tenant == b.Tenant && a.Seq == b.Seq && slices.Equal(a.Items, b.Items)
}

func alikeShards(a, b shard) bool {
	return slices.Equal(a.Records, b.Records) && slices.EqualFunc(a.Readies, b.Readies, alikeReadies) &&
		slices.Equal(a.Over, b.Over) && a.Log == b.Log && a.Sure == b.Sure
}

func copiedShard(s shard) shard {
	s.Records, s.Readies, s.Over = slices.Clone(s.Records), slices.Clone(s.Readies), slices.Clone(s.Over)
	for i := range s.Readies {
		s.Readies[i].Items = slices.Clone(s.Readies[i].Items)
	}
	return s
}

// shown is a Shard with as much of its Log as can be read in a message.
func shown(s shard) string {
	return fmt.Sprintf("{%d Records %s, %d Readies %s, %d Over %s, %d bytes of Log %.200q, Sure %d}",
		len(s.Records), brief(s.Records, 300), len(s.Readies), brief(s.Readies, 300), len(s.Over), brief(s.Over, 100), len(s.Log), s.Log, s.Sure)
}

func isOverNumber(n int64) bool {
	return n > 1000000 && n < 100000000 && n%1000000 >= 1 && n%1000000 <= greatestId
}

// isShard is the document's words of one.
func isShard(s shard) bool {
	ids, seqs := map[owner]int{}, map[owner]int{}
	for _, r := range s.Readies {
		seqs[owner{r.Tenant, r.Seq}]++
		if !isBatch(batch(r)) || seqs[owner{r.Tenant, r.Seq}] > 1 {
			return false
		}
		for _, i := range r.Items {
			ids[owner{r.Tenant, i.Id}]++
			if ids[owner{r.Tenant, i.Id}] > 1 {
				return false
			}
		}
	}
	for i, n := range s.Over {
		if !isOverNumber(n) || i > 0 && s.Over[i-1] >= n {
			return false
		}
	}
	return areRecords(s.Records) && len(s.Readies) <= 100 && len(s.Over) <= fullOver && len(s.Log) <= fullLog && s.Sure >= 0 && s.Sure <= int64(len(s.Log))
}

func setsIn(items []item) int {
	count := 0
	for _, i := range items {
		if i.Kind == 1 {
			count++
		}
	}
	return count
}

func hasReady(s shard, tenant, seq int64) (int, bool) {
	at := slices.IndexFunc(s.Readies, func(r ready) bool { return r.Tenant == tenant && r.Seq == seq })
	return at, at >= 0
}

// isRefused is ShNo of a right Batch, reason by reason.
func isRefused(s shard, b batch) bool {
	own, all := len(ofTenant(s.Records, b.Tenant))+setsIn(b.Items), len(s.Records)+setsIn(b.Items)
	for _, r := range s.Readies {
		all += setsIn(r.Items)
		if r.Tenant != b.Tenant {
			continue
		}
		own += setsIn(r.Items)
		for _, i := range r.Items {
			if slices.ContainsFunc(b.Items, func(other item) bool { return other.Id == i.Id }) {
				return true
			}
		}
	}
	_, can := heldAfter(s.Records, b)
	line := lineOf(restOf(readyOf(b.Tenant, b.Seq, b.Items...)))
	return !can || own > 20 || all > 400 || len(s.Readies) == 100 || len(s.Log)+len(line) > fullLog
}

func preparedOf(s shard, b batch) (shard, int64) {
	if !isShard(s) {
		return shard{}, 4
	}
	made := copiedShard(s)
	if !isBatch(b) {
		return made, 4
	}
	if _, is := hasReady(s, b.Tenant, b.Seq); is {
		return made, 1
	}
	if slices.Contains(s.Over, numberFor(b.Tenant, b.Seq)) {
		return made, 2
	}
	if isRefused(s, b) {
		return made, 3
	}
	made.Readies = append(made.Readies, heldReady(b.Tenant, b.Seq, slices.Clone(b.Items)...))
	made.Log += lineOf(restOf(readyOf(b.Tenant, b.Seq, b.Items...)))
	return made, 0
}

func settledOf(s shard, tenant, seq int64, done bool) (shard, bool) {
	if !isShard(s) {
		return shard{}, false
	}
	made, line := copiedShard(s), lineOf(restOf(offOf(tenant, seq)))
	was := slices.Contains(s.Over, numberFor(tenant, seq))
	at, is := hasReady(s, tenant, seq)
	if tenant < 1 || tenant > 99 || seq < 1 || seq > greatestId || !is && (done || was) {
		return made, false
	}
	if is && done {
		line = lineOf(restOf(doneOf(tenant, seq)))
		held, can := heldAfter(s.Records, batch(s.Readies[at]))
		if !can {
			return made, false
		}
		made.Records = inTurns(held)
	}
	if is {
		made.Readies = slices.Delete(made.Readies, at, at+1)
	}
	made.Log += line
	if !was {
		made.Over = append(made.Over, numberFor(tenant, seq))
		slices.Sort(made.Over)
	}
	if len(made.Over) > fullOver || len(made.Log) > fullLog {
		return copiedShard(s), false
	}
	return made, true
}

func syncedOf(s shard) shard {
	if !isShard(s) {
		return shard{}
	}
	made := copiedShard(s)
	made.Sure = int64(len(s.Log))
	return made
}

func isSealed(s shard, tenant, seq int64) bool {
	at, is := hasReady(s, tenant, seq)
	if !is || !isShard(s) {
		return false
	}
	r := s.Readies[at]
	all, _ := entriesOf(s.Log[:s.Sure])
	return slices.ContainsFunc(all, func(e entry) bool { return alikeEntries(e, readyOf(r.Tenant, r.Seq, r.Items...)) })
}

func rebornOf(log string) shard {
	var s shard
	if len(log) > fullLog {
		return s
	}
	all, _ := entriesOf(log)
	for _, e := range all {
		if e.Kind == 1 {
			s, _ = preparedOf(s, batchAt(e.Tenant, e.Seq, e.Items...))
		} else {
			s, _ = settledOf(s, e.Tenant, e.Seq, e.Kind == 2)
		}
	}
	return syncedOf(s)
}

func checkPrepared(t *testing.T, s shard, b batch) (shard, int64) {
	t.Helper()
	got, code := impl.Prepared(s, b)
	want, wantCode := preparedOf(s, b)
	if code != wantCode || !alikeShards(got, want) {
		t.Fatalf("Prepared(%s, %v) = %s, %d, not %s, %d", shown(s), b, shown(got), code, shown(want), wantCode)
	}
	if impl.ShardOk(s) != impl.ShardOk(got) && !alikeShards(got, shard{}) {
		t.Fatalf("Prepared(%s, %v) = %s is not right", shown(s), b, shown(got))
	}
	return got, code
}

func checkCode(t *testing.T, s shard, b batch, want int64) shard {
	t.Helper()
	got, code := checkPrepared(t, s, b)
	if code != want {
		t.Fatalf("Prepared(%s, %v) says %d, not %d", shown(s), b, code, want)
	}
	return got
}

func checkSettled(t *testing.T, s shard, tenant, seq int64, done bool) (shard, bool) {
	t.Helper()
	got, is := impl.Settled(s, tenant, seq, done)
	want, wantIs := settledOf(s, tenant, seq, done)
	if is != wantIs || !alikeShards(got, want) {
		t.Fatalf("Settled(%s, %d, %d, %v) = %s, %v, not %s, %v", shown(s), tenant, seq, done, shown(got), is, shown(want), wantIs)
	}
	if impl.ShardOk(s) != impl.ShardOk(got) && !alikeShards(got, shard{}) {
		t.Fatalf("Settled(%s, %d, %d, %v) = %s is not right", shown(s), tenant, seq, done, shown(got))
	}
	return got, is
}

func checkSaid(t *testing.T, s shard, tenant, seq int64, done, want bool) shard {
	t.Helper()
	got, is := checkSettled(t, s, tenant, seq, done)
	if is != want {
		t.Fatalf("Settled(%s, %d, %d, %v) says %v", shown(s), tenant, seq, done, is)
	}
	return got
}

func checkSynced(t *testing.T, s shard) shard {
	t.Helper()
	got := impl.Synced(s)
	if want := syncedOf(s); !alikeShards(got, want) {
		t.Fatalf("Synced(%s) = %s, not %s", shown(s), shown(got), shown(want))
	}
	return got
}

func checkSealed(t *testing.T, s shard, tenant, seq int64, want bool) {
	t.Helper()
	if got := impl.Sealed(s, tenant, seq); got != want || got != isSealed(s, tenant, seq) {
		t.Fatalf("Sealed(%s, %d, %d) = %v", shown(s), tenant, seq, got)
	}
}

func checkReborn(t *testing.T, log string, want shard) {
	t.Helper()
	got := impl.Reborn(log)
	if !alikeShards(got, want) {
		t.Fatalf("Reborn(%.400q) = %s, not %s", log, shown(got), shown(want))
	}
	if !impl.ShardOk(got) || got.Sure != int64(len(got.Log)) {
		t.Fatalf("Reborn(%.400q) = %s is not right, or not all Sure", log, shown(got))
	}
}

// checkAllCanBeDone asks that each Ready can be Done by itself, and all of them
// in this order and in the other one.
func checkAllCanBeDone(t *testing.T, s shard) {
	t.Helper()
	there, back := s.Records, s.Records
	for i, r := range s.Readies {
		last := s.Readies[len(s.Readies)-1-i]
		_, alone := impl.Done(s.Records, batch(r))
		var first, second bool
		there, first = impl.Done(there, batch(r))
		back, second = impl.Done(back, batch(last))
		if !alone || !first || !second {
			t.Fatalf("of %s number %d can't be Done: %v, %v, %v", shown(s), i, alone, first, second)
		}
	}
	if !impl.Same(there, back) {
		t.Fatalf("the Readies of %s hang on each other", shown(s))
	}
}

// checkPromiseFourteen is of a Shard that was made from the zero one on.
func checkPromiseFourteen(t *testing.T, s shard) {
	t.Helper()
	if !isShard(s) || !impl.ShardOk(s) {
		t.Fatalf("%s is not right", shown(s))
	}
	checkReborn(t, s.Log, syncedOf(s))
	checkAllCanBeDone(t, s)
}

func checkWrongShard(t *testing.T, s shard) {
	t.Helper()
	if isShard(s) || impl.ShardOk(s) {
		t.Fatalf("%s is right", shown(s))
	}
	for _, b := range []batch{batchAt(3, 1, setOfItem(5, spot{}, "")), batchAt(9, 9, cutOf(1)), {}} {
		if got, code := impl.Prepared(s, b); code != 4 || !alikeShards(got, shard{}) {
			t.Fatalf("Prepared(%s, %v) = %s, %d", shown(s), b, shown(got), code)
		}
	}
	for _, at := range []owner{{3, 1}, {9, 9}, {0, 0}} {
		for _, done := range []bool{false, true} {
			if got, is := impl.Settled(s, at.tenant, at.id, done); is || !alikeShards(got, shard{}) {
				t.Fatalf("Settled(%s, %v, %v) = %s, %v", shown(s), at, done, shown(got), is)
			}
		}
		if impl.Sealed(s, at.tenant, at.id) {
			t.Fatalf("Sealed(%s, %v)", shown(s), at)
		}
	}
	if got := impl.Synced(s); !alikeShards(got, shard{}) {
		t.Fatalf("Synced(%s) = %s", shown(s), shown(got))
	}
}

// manyReadies are of all Tenants in turn, each with Ids of its own.
func manyReadies(count int64) []ready {
	var list []ready
	for i := range count {
		list = append(list, heldReady(1+i%99, 1+i, setOfItem(1+i, spot{X: i % 256}, "ready")))
	}
	return list
}

// manyOver are at both ends of what a number can be.
func manyOver(count int64) []int64 {
	var list []int64
	for i := range count / 2 {
		list = append(list, numberFor(1, 1+i))
	}
	for i := int64(len(list)); i < count; i++ {
		list = append(list, numberFor(99, greatestId+1-count+i))
	}
	return list
}

// fullestShard is one of which nothing can become more.
func fullestShard() shard {
	return shard{Records: fullOfAll(), Readies: manyReadies(100), Over: manyOver(fullOver), Log: strings.Repeat("x", fullLog), Sure: fullLog}
}

// sixReadies is a Shard by hand, with a Log that has its lines.
func sixReadies() shard {
	s := shard{Records: ownOf(40, 4), Over: []int64{numberFor(2, 1), numberFor(40, 7), numberFor(99, greatestId)}}
	for i := range int64(6) {
		items := []item{setOfItem(200+i, spot{X: i}, "new"), setOfItem(300+i, spot{Y: i}, "")}
		if i < 4 {
			items = append(items, cutOf(100+i))
		}
		s.Readies = append(s.Readies, heldReady(39+i%3, 10+i, items...))
		s.Log += lineOf(restOf(readyOf(39+i%3, 10+i, items...)))
	}
	return s
}

func edgeShards() []shard {
	six := sixReadies()
	all := []shard{
		{}, {Records: []record{}, Readies: []ready{}, Over: []int64{}}, fullestShard(), six, syncedOf(six),
		{Readies: manyReadies(99)}, {Readies: manyReadies(100)}, {Over: manyOver(399)}, {Over: manyOver(fullOver)},
		{Log: "x"}, {Log: "x", Sure: 1}, {Log: strings.Repeat("\n", fullLog)}, {Log: strings.Repeat("\n", fullLog), Sure: fullLog}, {Log: strings.Repeat("\n", fullLog), Sure: fullLog - 1},
		{Over: []int64{1000001}}, {Over: []int64{99100000}}, {Over: []int64{1000001, 99100000}}, {Over: []int64{1100000, 2000001}}, {Over: []int64{1000001, 1000002}},
		{Readies: []ready{heldReady(1, 1, setOfItem(1, spot{}, "")), heldReady(99, greatestId, sixItems()...), heldReady(1, greatestId, cutOf(greatestId)), heldReady(99, 1, cutOf(5))}},
		// The same Ids, and the same Seqs, of two Tenants.
		{Readies: []ready{heldReady(3, 1, sixItems()...), heldReady(4, 1, sixItems()...)}},
		{Readies: []ready{heldReady(4, 1, cutOf(5)), heldReady(3, 2, cutOf(5)), heldReady(3, 1, cutOf(6))}},
		// A Seq of one that is an Id of another one.
		{Readies: []ready{heldReady(3, 5, cutOf(6)), heldReady(3, 6, cutOf(5))}},
		// Nothing is said of a Ready whose number is in Over.
		{Readies: []ready{heldReady(3, 5, cutOf(6))}, Over: []int64{numberFor(3, 5)}},
		// More than MaxOwn, and what can't be Done, may be there.
		{Records: fullOfOne(3), Readies: []ready{heldReady(3, 5, cutOf(1), setOfItem(3, spot{}, ""))}},
	}
	for _, list := range edgeRecordLists() {
		all = append(all, shard{Records: list})
	}
	for _, b := range edgeBatches() {
		all = append(all, shard{Readies: []ready{ready(b)}})
	}
	return all
}

// spoiledShards have one thing that is not right, in a Shard that is right
// otherwise.
func spoiledShards() []shard {
	var all []shard
	for _, with := range []func(s *shard){
		func(s *shard) { s.Readies = manyReadies(101) },
		func(s *shard) { s.Readies = manyReadies(1000) },
		func(s *shard) { s.Readies = append(s.Readies, s.Readies[0]) },
		func(s *shard) { s.Readies = append(s.Readies, heldReady(39, 77, cutOf(200))) },
		func(s *shard) { s.Readies = append(s.Readies, heldReady(41, 77, cutOf(5), setOfItem(305, spot{}, ""))) },
		func(s *shard) { s.Readies = append(s.Readies, heldReady(39, 10, cutOf(5))) },
		func(s *shard) { s.Readies = append([]ready{heldReady(41, 15, cutOf(5))}, s.Readies...) },
		func(s *shard) { s.Readies[5].Items = append(s.Readies[5].Items, cutOf(205)) },
		func(s *shard) { s.Readies[5].Items = nil },
		func(s *shard) { s.Readies[0].Items[0].Kind = 3 },
		func(s *shard) { s.Readies[3].Items[2].Text = "a" },
		func(s *shard) { s.Readies = append(s.Readies, ready{}) },
		func(s *shard) { s.Over = manyOver(401) },
		func(s *shard) { s.Over = manyOver(1000) },
		func(s *shard) { slices.Reverse(s.Over) },
		func(s *shard) { s.Over = append(s.Over, numberFor(99, greatestId)) },
		func(s *shard) { s.Over = append([]int64{numberFor(2, 1)}, s.Over...) },
		func(s *shard) { s.Over[1], s.Over[2] = s.Over[2], s.Over[1] },
		func(s *shard) { s.Log = strings.Repeat("x", fullLog+1) },
		func(s *shard) { s.Log = strings.Repeat("x", fullLog+1); s.Sure = fullLog },
		func(s *shard) { s.Log = strings.Repeat("x", fullLog+1); s.Sure = fullLog + 1 },
		func(s *shard) { s.Log = strings.Repeat("x", 1000000) },
		func(s *shard) { s.Sure = -1 },
		func(s *shard) { s.Sure = math.MinInt64 },
		func(s *shard) { s.Sure = int64(len(s.Log)) + 1 },
		func(s *shard) { s.Sure = math.MaxInt64 },
		func(s *shard) { s.Sure = 1 << 32 },
		func(s *shard) { s.Log, s.Sure = "", 1 },
	} {
		s := sixReadies()
		with(&s)
		all = append(all, s)
	}
	return all
}

func wrongShards() []shard {
	all := append(spoiledShards(), shard{Sure: -1}, shard{Sure: 1}, shard{Readies: []ready{{}}})
	for _, list := range wrongRecordLists() {
		all = append(all, shard{Records: list})
	}
	for _, b := range wrongBatches() {
		all = append(all, shard{Readies: []ready{ready(b)}})
	}
	for _, n := range []int64{
		math.MinInt64, -2000001, -1, 0, 1, 5, 100000, 999999, 1000000, 1100001, 1999999, 2000000, 50100001, 99000000, 99100001, 99999999, 100000000, 100000001, 1 << 32, math.MaxInt64,
	} {
		all = append(all, shard{Over: []int64{n}})
		two := []int64{n, numberFor(50, 50)}
		slices.Sort(two)
		all = append(all, shard{Over: two})
	}
	return all
}

func TestShardCodes(t *testing.T) {
	if impl.ShYes != 0 || impl.ShAgain != 1 || impl.ShOver != 2 || impl.ShNo != 3 || impl.ShBad != 4 {
		t.Fatal(impl.ShYes, impl.ShAgain, impl.ShOver, impl.ShNo, impl.ShBad)
	}
}

func TestShardOkOfRightOnes(t *testing.T) {
	for _, s := range edgeShards() {
		if !isShard(s) || !impl.ShardOk(s) {
			t.Fatalf("%s is not right", shown(s))
		}
		checkSynced(t, s)
	}
}

func TestWrongShards(t *testing.T) {
	for _, s := range wrongShards() {
		checkWrongShard(t, s)
	}
}

// Each Batch, right and wrong, in each of some Shards.
func TestPreparedIsByTheRule(t *testing.T) {
	next := someRule(200)
	counts := map[int64]int{}
	batches := slices.Concat(edgeBatches(), wrongBatches())
	for i, s := range edgeShards() {
		for j := range 12 {
			_, code := checkPrepared(t, s, batches[(i*37+j*11)%len(batches)])
			counts[code]++
			_, code = checkPrepared(t, s, someBatch(s.Records, 99, 300, next))
			counts[code]++
		}
		for _, r := range s.Readies[:min(len(s.Readies), 6)] {
			checkPrepared(t, s, batch(r))
			checkPrepared(t, s, batchAt(r.Tenant, r.Seq+1, r.Items...))
			checkPrepared(t, s, batchAt(r.Tenant%99+1, r.Seq, r.Items...))
		}
	}
	for _, code := range []int64{impl.ShYes, impl.ShNo, impl.ShBad} {
		if counts[code] < 50 {
			t.Fatalf("only %d of code %d", counts[code], code)
		}
	}
}

// A Batch that is not right is ShBad and the Shard as it is, whatever else
// there would be to say of it.
func TestPreparedOfWrongBatches(t *testing.T) {
	for _, s := range []shard{{}, sixReadies(), fullestShard(), {Over: []int64{numberFor(3, 1)}}, {Readies: []ready{heldReady(3, 1, sixItems()...)}}} {
		for _, b := range wrongBatches() {
			checkCode(t, s, b, impl.ShBad)
		}
	}
}

func TestPreparedNamedEdges(t *testing.T) {
	one := setOfItem(5, spot{X: 8}, "ab")
	for _, x := range []struct {
		s    shard
		b    batch
		want shard
		code int64
	}{
		{shard{}, batchAt(2, 3, one, setOfItem(6, spot{}, "")), shard{Readies: []ready{heldReady(2, 3, one, setOfItem(6, spot{}, ""))}, Log: lineOf("1 2 3 1 5 8 0 2 6162 1 6 0 0 0 -")}, impl.ShYes},
		{shard{}, batchAt(1, 1, one), shard{Readies: []ready{heldReady(1, 1, one)}, Log: lineOf("1 1 1 1 5 8 0 2 6162")}, impl.ShYes},
		{shard{}, batchAt(99, greatestId, one), shard{Readies: []ready{heldReady(99, greatestId, one)}, Log: lineOf("1 99 100000 1 5 8 0 2 6162")}, impl.ShYes},
		{shard{}, batchAt(0, 1, one), shard{}, impl.ShBad},
		{shard{}, batchAt(100, 1, one), shard{}, impl.ShBad},
		{shard{}, batchAt(1, 0, one), shard{}, impl.ShBad},
		{shard{}, batchAt(1, greatestId+1, one), shard{}, impl.ShBad},
		{shard{}, batchAt(1, 1), shard{}, impl.ShBad},
		{shard{}, batchAt(1, 1, cutOf(5)), shard{}, impl.ShNo},
		{shard{Log: "abc", Sure: 2}, batchAt(1, 1, one), shard{Readies: []ready{heldReady(1, 1, one)}, Log: "abc" + lineOf("1 1 1 1 5 8 0 2 6162"), Sure: 2}, impl.ShYes},
		{shard{Log: "abc", Sure: 2}, batchAt(1, 1, cutOf(5)), shard{Log: "abc", Sure: 2}, impl.ShNo},
		{shard{Log: "abc", Sure: 2}, batchAt(1, 1), shard{Log: "abc", Sure: 2}, impl.ShBad},
		{shard{Sure: 1}, batchAt(1, 1, one), shard{}, impl.ShBad},
		{shard{Sure: 1, Log: strings.Repeat("x", fullLog+1)}, batchAt(1, 1), shard{}, impl.ShBad},
		{shard{Records: []record{{Tenant: 1, Id: 5}}}, batchAt(1, 1, cutOf(5)), shard{Records: []record{{Tenant: 1, Id: 5}}, Readies: []ready{heldReady(1, 1, cutOf(5))}, Log: lineOf("1 1 1 2 5 0 0 0 -")}, impl.ShYes},
		{shard{Records: []record{{Tenant: 2, Id: 5}}}, batchAt(1, 1, cutOf(5)), shard{Records: []record{{Tenant: 2, Id: 5}}}, impl.ShNo},
		{shard{Readies: []ready{heldReady(1, 1, one)}}, batchAt(1, 1, one), shard{Readies: []ready{heldReady(1, 1, one)}}, impl.ShAgain},
		{shard{Readies: []ready{heldReady(1, 1, one)}}, batchAt(1, 2, one), shard{Readies: []ready{heldReady(1, 1, one)}}, impl.ShNo},
		{shard{Readies: []ready{heldReady(1, 1, one)}}, batchAt(2, 1, one), shard{Readies: []ready{heldReady(1, 1, one), heldReady(2, 1, one)}, Log: lineOf("1 2 1 1 5 8 0 2 6162")}, impl.ShYes},
		{shard{Over: []int64{1000001}}, batchAt(1, 1, one), shard{Over: []int64{1000001}}, impl.ShOver},
		{shard{Over: []int64{1000001}}, batchAt(1, 2, one), shard{Over: []int64{1000001}, Readies: []ready{heldReady(1, 2, one)}, Log: lineOf("1 1 2 1 5 8 0 2 6162")}, impl.ShYes},
	} {
		if got, code := impl.Prepared(x.s, x.b); code != x.code || !alikeShards(got, x.want) {
			t.Errorf("Prepared(%s, %v) = %s, %d, not %s, %d", shown(x.s), x.b, shown(got), code, shown(x.want), x.code)
		}
	}
}

// One after the other is taken away of what there is to say of a Batch.
func TestWhichCodeItIs(t *testing.T) {
	over := []int64{numberFor(3, 1)}
	full := strings.Repeat("x", fullLog)
	again := heldReady(3, 1, setOfItem(5, spot{}, ""))
	other := heldReady(3, 2, setOfItem(6, spot{}, ""))
	bad, clash, gone := batchAt(3, 1, cutOf(6), cutOf(6)), batchAt(3, 1, setOfItem(6, spot{}, "")), batchAt(3, 1, cutOf(9))
	s := shard{Readies: []ready{again, other}, Over: over, Log: full}
	checkCode(t, s, bad, impl.ShBad)
	for _, b := range []batch{clash, gone, batch(again), batchAt(3, 1, setOfItem(7, spot{}, ""))} {
		checkCode(t, s, b, impl.ShAgain)
	}
	s.Readies = []ready{other}
	checkCode(t, s, bad, impl.ShBad)
	for _, b := range []batch{clash, gone, batch(again)} {
		checkCode(t, s, b, impl.ShOver)
		checkCode(t, shard{Readies: manyReadies(100), Over: over, Log: full}, b, impl.ShOver)
	}
	s.Over = nil
	for _, b := range []batch{clash, gone, batch(again)} {
		checkCode(t, s, b, impl.ShNo)
	}
	checkCode(t, s, bad, impl.ShBad)
	s.Log = ""
	checkCode(t, s, bad, impl.ShBad)
	checkCode(t, s, clash, impl.ShNo)
	checkCode(t, s, gone, impl.ShNo)
	checkCode(t, s, batch(again), impl.ShYes)
}

// Any of up to six Ids that is in a Ready of the Tenant, whatever is done with
// it there and here; and none of another Tenant.
func TestPreparedOfIdsThatAreReady(t *testing.T) {
	list := ownOf(40, 6)
	kinds := func(id int64) []item { return []item{cutOf(id), setOfItem(id, spot{Y: 9}, "set")} }
	for at := range int64(6) {
		for _, there := range kinds(100 + at) {
			s := shard{Records: list, Readies: []ready{heldReady(39, 1, cutOf(103)), heldReady(40, 2, setOfItem(500, spot{}, ""), there)}}
			for other := range int64(6) {
				for _, here := range kinds(100 + other) {
					want := int64(impl.ShYes)
					if other == at {
						want = impl.ShNo
					}
					checkCode(t, s, batchAt(40, 1, setOfItem(600, spot{}, ""), here), want)
					checkCode(t, s, batchAt(40, 1, here, setOfItem(600, spot{}, "")), want)
					checkCode(t, s, batchAt(41, 2, here), impl.ShYes)
					checkCode(t, s, batchAt(40, 1, here, setOfItem(500, spot{}, "")), impl.ShNo)
				}
			}
		}
	}
}

// readiesOfSets are Readies of one Tenant with so many ItSets, and an ItCut in
// each.
func readiesOfSets(tenant int64, count int) []ready {
	var list []ready
	for from := 0; from < count; from += 5 {
		one := heldReady(tenant, int64(1000+from), cutOf(int64(5000+from)))
		for i := from; i < min(from+5, count); i++ {
			one.Items = append(one.Items, setOfItem(int64(1000+i), spot{X: int64(i)}, ""))
		}
		list = append(list, one)
	}
	return list
}

// ownAndBatch are so many Records of Tenant 40 and two others, and a Batch with
// so many ItSets, where cuts are with all ItCuts for which there is room.
func ownAndBatch(records, sets int, old, cuts bool) ([]record, batch) {
	b := batchAt(40, 1)
	for i := range sets {
		id := int64(2000 + i)
		if old {
			id = int64(100 + i)
		}
		b.Items = append(b.Items, setOfItem(id, spot{Y: int64(i)}, "new"))
	}
	for i := records - 1; i >= sets && len(b.Items) < 6 && (cuts || len(b.Items) == 0); i-- {
		b.Items = append([]item{cutOf(int64(100 + i))}, b.Items...)
	}
	return ownOf(40, int64(records)), b
}

// However it is made up: with 20 it is ShYes, with one more ShNo, though Done
// may say true of it.
func TestPreparedWithinMaxOwn(t *testing.T) {
	yes, no := 0, 0
	for records := range 22 {
		for sets := range 7 {
			for _, old := range []bool{false, true} {
				for _, cuts := range []bool{false, true} {
					list, b := ownAndBatch(records, sets, old && records >= sets, cuts)
					if len(b.Items) == 0 {
						continue
					}
					if left := 20 - records - sets; left >= 0 {
						s := shard{Records: list, Readies: append(readiesOfSets(39, 30), readiesOfSets(40, left)...)}
						checkCode(t, s, b, impl.ShYes)
						s.Readies = append(readiesOfSets(39, 30), readiesOfSets(40, left+1)...)
						checkCode(t, s, b, impl.ShNo)
						yes++
					} else if _, can := impl.Done(list, b); can {
						checkCode(t, shard{Records: list}, b, impl.ShNo)
						no++
					}
				}
			}
		}
	}
	if yes < 200 || no < 20 {
		t.Fatalf("%d ShYes, %d ShNo alone by what is counted", yes, no)
	}
}

// Of all Tenants: with 400 it is ShYes, with one more ShNo, though Done says
// true of it.
func TestPreparedWithinMaxRecords(t *testing.T) {
	for _, records := range []int{400, 399, 398, 394, 390, 380, 350} {
		list := fullOfAll()[:records]
		for sets := range 7 {
			var items []item
			for i := range sets {
				items = append(items, setOfItem(int64(2000+i), spot{}, ""))
			}
			if sets == 0 {
				items = []item{cutOf(1), cutOf(7)}
			}
			b := batchAt(5, 1, items...)
			left := 400 - records - sets
			if left < 0 {
				checkCode(t, shard{Records: list}, b, impl.ShNo)
				continue
			}
			checkCode(t, shard{Records: list, Readies: readiesOfSets(60, left)}, b, impl.ShYes)
			checkCode(t, shard{Records: list, Readies: append(readiesOfSets(60, left/2), readiesOfSets(61, left-left/2)...)}, b, impl.ShYes)
			checkCode(t, shard{Records: list, Readies: readiesOfSets(60, left+1)}, b, impl.ShNo)
			checkCode(t, shard{Records: list, Readies: append(readiesOfSets(60, left), readiesOfSets(99, 1)...)}, b, impl.ShNo)
			if _, can := impl.Done(list, b); !can {
				t.Fatalf("%v can't be Done", b)
			}
		}
		checkCode(t, shard{Records: fullOfAll()}, batchAt(5, 1, cutOf(1), setOfItem(2, spot{}, "")), impl.ShNo)
		checkCode(t, shard{Records: fullOfAll()}, batchAt(5, 1, setOfItem(1, spot{}, "")), impl.ShNo)
	}
}

func TestPreparedWithoutRoom(t *testing.T) {
	one := setOfItem(5000, spot{}, "")
	checkCode(t, shard{Readies: manyReadies(99)}, batchAt(3, 5000, one), impl.ShYes)
	checkCode(t, shard{Readies: manyReadies(100)}, batchAt(3, 5000, one), impl.ShNo)
	checkCode(t, shard{Over: manyOver(399)}, batchAt(3, 5000, one), impl.ShYes)
	checkCode(t, shard{Over: manyOver(fullOver)}, batchAt(3, 5000, one), impl.ShYes)
	for _, items := range [][]item{{one}, {setOfItem(1, spot{}, ""), setOfItem(2, spot{X: 255, Y: 255}, "text")}, fullest()} {
		for _, at := range []owner{{1, 1}, {99, greatestId}} {
			b := batchAt(at.tenant, at.id, items...)
			line := len(lineOf(restOf(readyOf(b.Tenant, b.Seq, b.Items...))))
			just := checkCode(t, shard{Log: strings.Repeat("x", fullLog-line), Sure: 7}, b, impl.ShYes)
			if len(just.Log) != fullLog || just.Sure != 7 || !impl.ShardOk(just) {
				t.Fatal(shown(just))
			}
			checkCode(t, shard{Log: strings.Repeat("x", fullLog-line-1)}, b, impl.ShYes)
			for _, lacks := range []int{1, 2, line - 1, line} {
				checkCode(t, shard{Log: strings.Repeat("x", fullLog-line+lacks), Sure: 7}, b, impl.ShNo)
			}
		}
	}
}

func TestSettledNamedEdges(t *testing.T) {
	one, cut := setOfItem(5, spot{X: 8}, "ab"), cutOf(6)
	old := []record{{Tenant: 1, Id: 6}, {Tenant: 2, Id: 5, Text: "old"}, {Tenant: 2, Id: 6}, {Tenant: 3, Id: 5}}
	made := []record{old[0], {Tenant: 2, Id: 5, At: spot{X: 8}, Text: "ab"}, old[3]}
	own, other := heldReady(2, 3, one, cut), heldReady(3, 3, cutOf(5))
	s := shard{Records: old, Readies: []ready{other, own}, Over: []int64{1000003, 2000004}, Log: "abc", Sure: 2}
	gone := func(records []record, over []int64, line string, readies ...ready) shard {
		return shard{Records: records, Readies: readies, Over: over, Log: "abc" + line, Sure: 2}
	}
	for _, x := range []struct {
		s           shard
		tenant, seq int64
		done        bool
		want        shard
		is          bool
	}{
		{s, 2, 3, true, gone(made, []int64{1000003, 2000003, 2000004}, lineOf("2 2 3"), other), true},
		{s, 2, 3, false, gone(old, []int64{1000003, 2000003, 2000004}, lineOf("3 2 3"), other), true},
		{s, 3, 3, true, gone(old[:3], []int64{1000003, 2000004, 3000003}, lineOf("2 3 3"), own), true},
		{s, 3, 3, false, gone(old, []int64{1000003, 2000004, 3000003}, lineOf("3 3 3"), own), true},
		{s, 2, 5, false, gone(old, []int64{1000003, 2000004, 2000005}, lineOf("3 2 5"), other, own), true},
		{s, 1, 1, false, gone(old, []int64{1000001, 1000003, 2000004}, lineOf("3 1 1"), other, own), true},
		{s, 99, greatestId, false, gone(old, []int64{1000003, 2000004, 99100000}, lineOf("3 99 100000"), other, own), true},
		{s, 2, 5, true, s, false},
		{s, 2, 4, true, s, false},
		{s, 2, 4, false, s, false},
		{s, 1, 3, true, s, false},
		{s, 1, 3, false, s, false},
		{s, 0, 3, false, s, false},
		{s, 100, 3, false, s, false},
		{s, 2, 0, false, s, false},
		{s, 2, greatestId + 1, false, s, false},
		{s, 1, 1000003, true, s, false},
		{s, 1, 1000003, false, s, false},
		{s, 3, -999997, true, s, false},
		{s, 3, -999997, false, s, false},
		{shard{}, 1, 1, false, shard{Over: []int64{1000001}, Log: lineOf("3 1 1")}, true},
		{shard{}, 1, 1, true, shard{}, false},
		{shard{}, 0, 0, false, shard{}, false},
		{shard{Sure: 1}, 1, 1, false, shard{}, false},
	} {
		if got, is := impl.Settled(x.s, x.tenant, x.seq, x.done); is != x.is || !alikeShards(got, x.want) {
			t.Errorf("Settled(%s, %d, %d, %v) = %s, %v, not %s, %v", shown(x.s), x.tenant, x.seq, x.done, shown(got), is, shown(x.want), x.is)
		}
	}
}

func TestSettledIsByTheRule(t *testing.T) {
	next := someRule(201)
	counts := map[bool]int{}
	for _, s := range edgeShards() {
		ask := []owner{{1 + next(99), 1 + next(greatestId)}, {1, 1}, {99, greatestId}, {50, 50}}
		for _, r := range s.Readies[:min(len(s.Readies), 6)] {
			ask = append(ask, owner{r.Tenant, r.Seq}, owner{r.Tenant, r.Seq + 1}, owner{r.Tenant + 1, r.Seq})
		}
		for _, n := range s.Over[:min(len(s.Over), 3)] {
			ask = append(ask, owner{n / 1000000, n % 1000000})
		}
		for _, at := range ask {
			for _, done := range []bool{false, true} {
				_, is := checkSettled(t, s, at.tenant, at.id, done)
				counts[is]++
			}
		}
	}
	if counts[true] < 500 || counts[false] < 500 {
		t.Fatalf("%v: the rule tells too little", counts)
	}
}

// Numbers that are out of range, also those that together would be the number
// of one that is there.
func TestSettledOutOfRange(t *testing.T) {
	s := sixReadies()
	s.Over = append(s.Over[:1:1], numberFor(40, 7))
	for _, done := range []bool{false, true} {
		for _, tenant := range wrongTenants() {
			for _, seq := range slices.Concat(rightIds(), wrongIds()) {
				checkSaid(t, s, tenant, seq, done, false)
				checkSealed(t, syncedOf(s), tenant, seq, false)
			}
		}
		for _, seq := range wrongIds() {
			checkSaid(t, s, 40, seq, done, false)
			checkSealed(t, syncedOf(s), 40, seq, false)
		}
		for _, r := range s.Readies {
			for shift := int64(-3); shift <= 3; shift++ {
				if shift != 0 {
					checkSaid(t, s, r.Tenant+shift, r.Seq-1000000*shift, done, false)
					checkSealed(t, syncedOf(s), r.Tenant+shift, r.Seq-1000000*shift, false)
				}
			}
		}
	}
}

// Items that can't be Done: with done it stays, without done it can go.
func TestSettledOfWhatCannotBeDone(t *testing.T) {
	for _, s := range []shard{
		{Readies: []ready{heldReady(40, 1, cutOf(5))}},
		{Records: ownOf(40, 3), Readies: []ready{heldReady(40, 1, setOfItem(5, spot{}, ""), cutOf(100), cutOf(103))}},
		{Records: ownOf(40, 20), Readies: []ready{heldReady(40, 1, setOfItem(5, spot{}, ""))}},
		{Records: ownOf(40, 22), Readies: []ready{heldReady(40, 1, cutOf(100))}},
		{Records: fullOfAll(), Readies: []ready{heldReady(40, 1, setOfItem(5, spot{}, ""))}},
	} {
		checkSaid(t, s, 40, 1, true, false)
		if got := checkSaid(t, s, 40, 1, false, true); !slices.Equal(got.Records, s.Records) || len(got.Readies) != 0 || !slices.Equal(got.Over, []int64{40000001}) {
			t.Fatalf("%s", shown(got))
		}
	}
	// What Prepared would refuse can be Done all the same where it is there.
	checkSaid(t, shard{Records: ownOf(40, 20), Readies: []ready{heldReady(40, 1, setOfItem(100, spot{}, ""))}}, 40, 1, true, true)
	checkSaid(t, shard{Records: ownOf(40, 20), Readies: []ready{heldReady(40, 1, cutOf(101), setOfItem(5, spot{}, ""))}}, 40, 1, true, true)
}

func TestSettledWithoutRoom(t *testing.T) {
	one := heldReady(40, 50, setOfItem(5, spot{}, ""))
	for _, done := range []bool{false, true} {
		rest := restOf(offOf(40, 50))
		if done {
			rest = restOf(doneOf(40, 50))
		}
		line := len(lineOf(rest))
		checkSaid(t, shard{Readies: []ready{one}, Over: manyOver(399)}, 40, 50, done, true)
		checkSaid(t, shard{Readies: []ready{one}, Over: manyOver(fullOver)}, 40, 50, done, false)
		checkSaid(t, shard{Over: manyOver(399)}, 40, 50, done, !done)
		checkSaid(t, shard{Over: manyOver(fullOver)}, 40, 50, done, false)
		// A number that is in Over already needs no room there.
		twice := append(manyOver(399), numberFor(40, 50))
		slices.Sort(twice)
		checkSaid(t, shard{Readies: []ready{one}, Over: twice}, 40, 50, done, true)
		for lacks := range line + 1 {
			s := shard{Readies: []ready{one}, Log: strings.Repeat("x", fullLog-line+lacks), Sure: 7}
			if got := checkSaid(t, s, 40, 50, done, lacks == 0); lacks == 0 && len(got.Log) != fullLog {
				t.Fatal(shown(got))
			}
			s.Readies = nil
			checkSaid(t, s, 40, 50, done, lacks == 0 && !done)
		}
		full := append(manyReadies(99), heldReady(40, 5000, setOfItem(5000, spot{}, "")))
		if got := checkSaid(t, shard{Readies: full}, 40, 5000, done, true); len(got.Readies) != 99 {
			t.Fatal(shown(got))
		}
	}
}

// With done just what Done makes, without it nothing, wherever the Ready stands.
func TestSettledDoesTheItems(t *testing.T) {
	s := sixReadies()
	for at, r := range s.Readies {
		want, is := impl.Done(s.Records, batch(r))
		got, can := checkSettled(t, s, r.Tenant, r.Seq, true)
		if is != can || !slices.Equal(got.Records, want) || is && slices.Equal(want, s.Records) {
			t.Fatalf("number %d: %s, %v, not %v, %v", at, shown(got), can, want, is)
		}
		off := checkSaid(t, s, r.Tenant, r.Seq, false, true)
		if !slices.Equal(off.Records, s.Records) || !strings.HasSuffix(off.Log, lineOf(restOf(offOf(r.Tenant, r.Seq)))) {
			t.Fatalf("number %d: %s", at, shown(off))
		}
		others := slices.Delete(slices.Clone(s.Readies), at, at+1)
		if !slices.EqualFunc(off.Readies, others, alikeReadies) {
			t.Fatalf("number %d: %s", at, shown(off))
		}
	}
}

// What is over is not ready again, and not over again, be it done or off, ready
// or never.
func TestWhatIsOverStaysOver(t *testing.T) {
	b := batchAt(3, 7, setOfItem(5, spot{}, ""))
	first := checkCode(t, shard{}, b, impl.ShYes)
	done := checkSaid(t, first, 3, 7, true, true)
	off := checkSaid(t, first, 3, 7, false, true)
	never := checkSaid(t, shard{}, 3, 7, false, true)
	for _, s := range []shard{done, off, never} {
		for _, again := range []batch{b, batchAt(3, 7, setOfItem(6, spot{}, "")), batchAt(3, 7, cutOf(5)), batchAt(3, 7, sixItems()...)} {
			checkCode(t, s, again, impl.ShOver)
		}
		checkSaid(t, s, 3, 7, true, false)
		checkSaid(t, s, 3, 7, false, false)
		checkSealed(t, syncedOf(s), 3, 7, false)
		checkCode(t, s, batchAt(3, 8, b.Items...), impl.ShYes)
		checkCode(t, s, batchAt(4, 7, b.Items...), impl.ShYes)
		checkPromiseFourteen(t, s)
	}
	// The Ids are free again.
	checkCode(t, done, batchAt(3, 8, cutOf(5)), impl.ShYes)
	checkCode(t, off, batchAt(3, 8, cutOf(5)), impl.ShNo)
}

func TestTwoTenantsWithTheSameIds(t *testing.T) {
	var s shard
	for tenant := int64(1); tenant <= 60; tenant++ {
		s = checkCode(t, s, batchAt(tenant, 1, manyItems(6)...), impl.ShYes)
		checkCode(t, s, batchAt(tenant, 2, manyItems(1)...), impl.ShNo)
		checkCode(t, s, batchAt(tenant, 1, manyItems(1)...), impl.ShAgain)
	}
	checkPromiseFourteen(t, s)
	for tenant := int64(60); tenant >= 1; tenant-- {
		s = checkSaid(t, s, tenant, 1, tenant%3 > 0, true)
	}
	if len(s.Records) != 240 || len(s.Readies) != 0 || len(s.Over) != 60 {
		t.Fatal(shown(s))
	}
	checkPromiseFourteen(t, s)
}

func TestSyncedIsAllOfLog(t *testing.T) {
	s := sixReadies()
	for sure := range int64(len(s.Log) + 1) {
		s.Sure = sure
		if got := checkSynced(t, s); got.Sure != int64(len(s.Log)) || got.Log != s.Log {
			t.Fatal(shown(got))
		}
	}
}

// At each Sure: the whole line must be within, its end, too.
func TestSealedAtEachSure(t *testing.T) {
	s := sixReadies()
	ends := []int{}
	for at := range s.Log {
		if s.Log[at] == '\n' {
			ends = append(ends, at+1)
		}
	}
	for sure := range len(s.Log) + 1 {
		s.Sure = int64(sure)
		for at, r := range s.Readies {
			checkSealed(t, s, r.Tenant, r.Seq, sure >= ends[at])
			checkSealed(t, s, r.Tenant, r.Seq+1000, false)
			checkSealed(t, s, 77, r.Seq, false)
		}
	}
}

// A Ready is Sealed once it was Synced, and no longer once it is settled.
func TestSealedStepByStep(t *testing.T) {
	s := checkCode(t, shard{}, batchAt(3, 7, setOfItem(5, spot{}, "")), impl.ShYes)
	checkSealed(t, s, 3, 7, false)
	s = checkSynced(t, s)
	checkSealed(t, s, 3, 7, true)
	s = checkCode(t, s, batchAt(3, 8, setOfItem(6, spot{}, "")), impl.ShYes)
	checkSealed(t, s, 3, 7, true)
	checkSealed(t, s, 3, 8, false)
	checkSealed(t, s, 4, 7, false)
	s = checkSynced(t, s)
	checkSealed(t, s, 3, 8, true)
	off := checkSaid(t, s, 3, 7, false, true)
	checkSealed(t, off, 3, 7, false)
	checkSealed(t, off, 3, 8, true)
	done := checkSaid(t, off, 3, 8, true, true)
	checkSealed(t, done, 3, 8, false)
	checkSealed(t, checkSynced(t, done), 3, 8, false)
}

// Logs that have no such Entry, though they have some of its bytes, and some
// that have it.
func TestSealedIsAskedOfTheEntry(t *testing.T) {
	own := heldReady(3, 7, setOfItem(5, spot{}, "a"), cutOf(6))
	line := lineOf(restOf(readyOf(3, 7, own.Items...)))
	for _, x := range []struct {
		log  string
		want bool
	}{
		{"", false}, {line, true}, {line + line, true}, {line + "x", true}, {line + "x\n", true},
		{line[:len(line)-1], false}, {line[1:], false}, {"1" + line, false}, {" " + line, false}, {"\n" + line, false}, {"x\n" + line, false},
		{lineOf("2 3 7") + line, true}, {lineOf("3 3 7") + line, true}, {line + lineOf("3 3 7"), true},
		{lineOf("2 3 7"), false}, {lineOf("3 3 7"), false}, {lineOf("1 3 8 1 5 0 0 1 61 2 6 0 0 0 -"), false}, {lineOf("1 4 7 1 5 0 0 1 61 2 6 0 0 0 -"), false},
		{lineOf("1 3 7 1 5 0 0 1 61"), false}, {lineOf("1 3 7 2 6 0 0 0 - 1 5 0 0 1 61"), false}, {lineOf("1 3 7 1 5 0 0 1 62 2 6 0 0 0 -"), false},
		{lineOf("1 3 7 1 5 0 0 1 61") + line, true}, {lineOf("2 3 7")[1:] + line, false},
	} {
		checkSealed(t, shard{Readies: []ready{own}, Log: x.log, Sure: int64(len(x.log))}, 3, 7, x.want)
		checkSealed(t, shard{Readies: []ready{own}, Log: x.log}, 3, 7, false)
		checkSealed(t, shard{Log: x.log, Sure: int64(len(x.log))}, 3, 7, false)
		checkSealed(t, shard{Readies: []ready{heldReady(3, 8, own.Items...)}, Log: x.log, Sure: int64(len(x.log))}, 3, 7, false)
	}
}

// A scriptRule tells of how few Tenants, Ids and Seqs a script is.
type scriptRule struct {
	tenants, ids, seqs int64
}

func scriptRules() []scriptRule {
	return []scriptRule{{1, 8, 20}, {1, 60, 300}, {2, 12, 40}, {3, 30, greatestId}, {25, 40, 30}, {99, 10, 9}, {99, greatestId, greatestId}}
}

// step does one thing by a fixed rule, and holds what is answered against the
// document's words.
func step(t *testing.T, s shard, rule scriptRule, next func(below int64) int64) shard {
	t.Helper()
	var made shard
	tenant, seq := 1+next(rule.tenants), 1+next(rule.seqs)
	if len(s.Readies) > 0 && next(4) > 0 {
		some := s.Readies[next(int64(len(s.Readies)))]
		tenant, seq = some.Tenant, some.Seq
	}
	switch next(12) {
	case 0, 1, 2:
		made, _ = checkSettled(t, s, tenant, seq, true)
	case 3, 4:
		made, _ = checkSettled(t, s, tenant, seq, false)
	case 5:
		made = checkSynced(t, s)
	default:
		b := someBatch(s.Records, rule.tenants, rule.ids, next)
		b.Tenant, b.Seq = (b.Tenant-1)%rule.tenants+1, 1+next(rule.seqs)
		made, _ = checkPrepared(t, s, b)
	}
	if made.Sure > s.Sure && made.Sure != int64(len(s.Log)) || !strings.HasPrefix(made.Log, s.Log) {
		t.Fatalf("%s became %s", shown(s), shown(made))
	}
	return made
}

// The promise, step by step; and Reborn of each part of the Log is what the
// Shard was then.
func TestScriptsOfAShard(t *testing.T) {
	for seed, rule := range scriptRules() {
		next := someRule(uint32(210 + seed))
		var s shard
		were := map[int]shard{}
		for range 160 {
			s = step(t, s, rule, next)
			checkPromiseFourteen(t, s)
			were[len(s.Log)] = syncedOf(s)
		}
		if len(were) < 20 {
			t.Fatalf("%v: only %d steps did something", rule, len(were))
		}
		var was shard
		for cut := range len(s.Log) + 1 {
			if then, is := were[cut]; is {
				was = then
			}
			if _, is := were[cut]; is || cut%17 == 0 {
				checkReborn(t, s.Log[:cut], was)
			}
		}
	}
}

// Each byte at which a short Log can be cut.
func TestRebornOfEachPart(t *testing.T) {
	next := someRule(220)
	var s shard
	were := map[int]shard{}
	for range 60 {
		s = step(t, s, scriptRule{2, 12, 40}, next)
		were[len(s.Log)] = syncedOf(s)
	}
	if len(were) < 25 {
		t.Fatalf("only %d steps did something", len(were))
	}
	var was shard
	for cut := range len(s.Log) + 1 {
		if then, is := were[cut]; is {
			was = then
		}
		checkReborn(t, s.Log[:cut], was)
		checkReborn(t, s.Log[:cut]+"x", was)
	}
}

// Of one that fell anywhere and was Reborn, and goes on, the promise holds, too.
func TestRebornAndGoesOn(t *testing.T) {
	for seed, rule := range scriptRules() {
		next := someRule(uint32(230 + seed))
		var s shard
		for range 12 {
			for range 20 {
				s = step(t, s, rule, next)
			}
			cut := s.Sure + next(int64(len(s.Log))-s.Sure+1)
			sealed := slices.DeleteFunc(slices.Clone(s.Readies), func(r ready) bool { return !impl.Sealed(s, r.Tenant, r.Seq) })
			over := slices.Clone(s.Over)
			s = impl.Reborn(s.Log[:cut])
			checkPromiseFourteen(t, s)
			for _, r := range sealed {
				_, is := hasReady(s, r.Tenant, r.Seq)
				if !is && !slices.Contains(over, numberFor(r.Tenant, r.Seq)) {
					t.Fatalf("%v was Sealed, and is lost in %s", r, shown(s))
				}
				checkSealed(t, s, r.Tenant, r.Seq, is)
			}
		}
	}
}

// What is Ready can be settled, in any order, some done and some off.
func TestAllThatIsReadyIsSettled(t *testing.T) {
	for seed, rule := range scriptRules() {
		next := someRule(uint32(240 + seed))
		for range 6 {
			var s shard
			for range 60 {
				s = step(t, s, rule, next)
			}
			s = impl.Reborn(s.Log)
			for len(s.Readies) > 0 {
				r := s.Readies[next(int64(len(s.Readies)))]
				s = checkSaid(t, s, r.Tenant, r.Seq, next(3) > 0, true)
				checkPromiseFourteen(t, s)
			}
		}
	}
}

// From the zero Shard to 20 Records of a Tenant, with some of them ready, and to
// 400 of all.
func TestShardIsFilled(t *testing.T) {
	var s shard
	for tenant := int64(1); tenant <= 20; tenant++ {
		for seq := int64(1); seq <= 4; seq++ {
			count := int64(6)
			if seq == 4 {
				count = 2
			}
			var items []item
			for i := range count {
				items = append(items, setOfItem(10*seq+i, spot{X: tenant, Y: seq}, ""))
			}
			if seq == 4 {
				checkCode(t, s, batchAt(tenant, 9, append(items, setOfItem(99, spot{}, ""))...), impl.ShNo)
			}
			s = checkCode(t, s, batchAt(tenant, seq, items...), impl.ShYes)
			if (tenant+seq)%2 == 0 {
				s = checkSaid(t, s, tenant, seq, true, true)
			}
		}
		checkCode(t, s, batchAt(tenant, 9, setOfItem(99, spot{}, "")), impl.ShNo)
	}
	checkPromiseFourteen(t, s)
	checkCode(t, s, batchAt(21, 1, setOfItem(99, spot{}, "")), impl.ShNo)
	for _, r := range slices.Clone(s.Readies) {
		s = checkSaid(t, s, r.Tenant, r.Seq, true, true)
	}
	if len(s.Records) != 400 || len(s.Readies) != 0 || len(s.Over) != 80 {
		t.Fatal(shown(s))
	}
	checkPromiseFourteen(t, s)
	checkCode(t, s, batchAt(21, 1, setOfItem(99, spot{}, "")), impl.ShNo)
	s = checkCode(t, s, batchAt(20, 9, cutOf(10)), impl.ShYes)
	s = checkSaid(t, s, 20, 9, true, true)
	checkCode(t, s, batchAt(21, 1, setOfItem(99, spot{}, "")), impl.ShYes)
	checkCode(t, s, batchAt(21, 1, setOfItem(99, spot{}, ""), setOfItem(98, spot{}, "")), impl.ShNo)
	checkPromiseFourteen(t, s)
}

// With the longest lines until Log has no room for one more.
func TestLogIsFilled(t *testing.T) {
	var s shard
	for seq := int64(greatestId); seq > greatestId-1000; seq-- {
		made, code := impl.Prepared(s, batchAt(99, seq, fullest()...))
		if code != impl.ShYes {
			break
		}
		settled, is := impl.Settled(made, 99, seq, seq == greatestId)
		if !is {
			s = made
			break
		}
		s = settled
	}
	checkPrepared(t, s, batchAt(99, 1, fullest()...))
	if len(s.Log) < fullLog-1000 || len(s.Over) < 100 {
		t.Fatal(shown(s))
	}
	for seq := int64(1); seq < 1000; seq++ {
		s, _ = checkSettled(t, s, 1, seq, false)
	}
	if len(s.Log) < fullLog-20 {
		t.Fatal(shown(s))
	}
	checkPromiseFourteen(t, s)
	checkReborn(t, s.Log+strings.Repeat("x", fullLog-len(s.Log)), syncedOf(s))
	checkReborn(t, s.Log+strings.Repeat("x", fullLog+1-len(s.Log)), shard{})
}

// 400 are over, and no more: what comes then stays ready.
func TestOverIsFilled(t *testing.T) {
	var s shard
	for i := range int64(400) {
		s = checkSaid(t, s, 1+i%99, 1+i, false, true)
	}
	checkSaid(t, s, 1, 5000, false, false)
	s = checkCode(t, s, batchAt(1, 5000, setOfItem(5, spot{}, "")), impl.ShYes)
	checkSaid(t, s, 1, 5000, true, false)
	checkSaid(t, s, 1, 5000, false, false)
	checkPromiseFourteen(t, s)
	checkSealed(t, checkSynced(t, s), 1, 5000, true)
}

// 100 are ready, and no more, until one of them goes.
func TestReadiesAreFilled(t *testing.T) {
	var s shard
	for i := range int64(100) {
		s = checkCode(t, s, batchAt(1+i%50, 1+i, setOfItem(1+i, spot{}, "")), impl.ShYes)
	}
	more := batchAt(99, 1, setOfItem(1, spot{}, ""))
	checkCode(t, s, more, impl.ShNo)
	checkCode(t, s, batchAt(1, 1, setOfItem(1, spot{}, "")), impl.ShAgain)
	checkPromiseFourteen(t, s)
	checkCode(t, checkSaid(t, s, 50, 50, false, true), more, impl.ShYes)
	checkCode(t, checkSaid(t, s, 1, 1, true, true), more, impl.ShYes)
}

func TestRebornNamedEdges(t *testing.T) {
	one, other := setOfItem(5, spot{X: 8}, "ab"), setOfItem(6, spot{}, "")
	r := lineOf(restOf(readyOf(2, 3, one)))
	clash := lineOf(restOf(readyOf(2, 4, one)))
	more := lineOf(restOf(readyOf(2, 4, other)))
	done, off := lineOf("2 2 3"), lineOf("3 2 3")
	held := []record{{Tenant: 2, Id: 5, At: spot{X: 8}, Text: "ab"}}
	for _, x := range []struct {
		log  string
		want shard
	}{
		{"", shard{}},
		{"x", shard{}},
		{"\n", shard{}},
		{r, shard{Readies: []ready{heldReady(2, 3, one)}, Log: r}},
		{r[:len(r)-1], shard{}},
		{"\n" + r, shard{}},
		{r + "\n" + done, shard{Readies: []ready{heldReady(2, 3, one)}, Log: r}},
		{r + r, shard{Readies: []ready{heldReady(2, 3, one)}, Log: r}},
		{r + clash, shard{Readies: []ready{heldReady(2, 3, one)}, Log: r}},
		{r + more, shard{Readies: []ready{heldReady(2, 3, one), heldReady(2, 4, other)}, Log: r + more}},
		{more + r, shard{Readies: []ready{heldReady(2, 4, other), heldReady(2, 3, one)}, Log: more + r}},
		{r + done, shard{Records: held, Over: []int64{2000003}, Log: r + done}},
		{r + off, shard{Over: []int64{2000003}, Log: r + off}},
		{r + done + off, shard{Records: held, Over: []int64{2000003}, Log: r + done}},
		{r + off + done, shard{Over: []int64{2000003}, Log: r + off}},
		{r + off + off + done + done + r, shard{Over: []int64{2000003}, Log: r + off}},
		{r + off + clash, shard{Readies: []ready{heldReady(2, 4, one)}, Over: []int64{2000003}, Log: r + off + clash}},
		{r + clash + off + clash, shard{Readies: []ready{heldReady(2, 4, one)}, Over: []int64{2000003}, Log: r + off + clash}},
		{done, shard{}},
		{done + r, shard{Readies: []ready{heldReady(2, 3, one)}, Log: r}},
		{off, shard{Over: []int64{2000003}, Log: off}},
		{off + r + done, shard{Over: []int64{2000003}, Log: off}},
		{lineOf(restOf(readyOf(2, 3, cutOf(5)))) + r + done + lineOf(restOf(readyOf(2, 9, cutOf(5)))), shard{Records: held, Readies: []ready{heldReady(2, 9, cutOf(5))}, Over: []int64{2000003}, Log: r + done + lineOf(restOf(readyOf(2, 9, cutOf(5))))}},
	} {
		x.want.Sure = int64(len(x.want.Log))
		checkReborn(t, x.log, x.want)
		checkReborn(t, x.log+"12", x.want)
	}
}

// Entries of any kind, of which many say no.
func TestRebornOfAnyEntries(t *testing.T) {
	passed, did := 0, 0
	for seed := range uint32(60) {
		next := someRule(250 + seed)
		rule := scriptRules()[int(seed)%len(scriptRules())]
		var list []entry
		for range 20 + next(150) {
			e := someEntry(next)
			e.Tenant, e.Seq = 1+next(rule.tenants), 1+next(min(rule.seqs, 60))
			if e.Kind == 1 {
				e.Items = someBatch(nil, 1, min(rule.ids, 50), next).Items
			}
			if e.Kind == 3 && next(3) > 0 {
				e = doneOf(e.Tenant, e.Seq)
			}
			list = append(list, e)
		}
		log := disk(list)
		want := rebornOf(log)
		checkReborn(t, log, want)
		checkPromiseFourteen(t, want)
		lines, _ := entriesOf(want.Log)
		passed, did = passed+len(list)-len(lines), did+len(lines)
		checkReborn(t, want.Log, want)
	}
	if passed < 500 || did < 500 {
		t.Fatalf("%d were passed over, %d done: the rule tells too little", passed, did)
	}
}

// Logs of 100000 bytes, and of one more, most of which is passed over.
func TestRebornOfLongLogs(t *testing.T) {
	first := lineOf(restOf(readyOf(99, 1, fullest()...)))
	var longest []entry
	for i := range int64(280) {
		longest = append(longest, readyOf(1+i%99, 1+i, fullest()...))
	}
	for _, x := range []struct {
		first, over string
	}{
		{"", "x"}, {"", "\n"}, {"", "1 "}, {first, "x"}, {first, lineOf("2 1 1")}, {first, first}, {first, lineOf(restOf(readyOf(99, 2, fullest()...)))}, {"", lineOf("3 1 1")}, {first + lineOf("2 99 1"), lineOf("1 1 1 2 5 0 0 0 -")}, {disk(longest), "x"},
	} {
		log := (x.first + strings.Repeat(x.over, fullLog))[:fullLog]
		checkReborn(t, log, rebornOf(log))
		checkReborn(t, log+"x", shard{})
		checkReborn(t, log+"\n", shard{})
		checkReborn(t, log+log, shard{})
	}
	var list []entry
	for i := range int64(8000) {
		list = append(list, offOf(1+i%99, 1+i))
	}
	log := disk(list)[:fullLog]
	want := shard{Over: rebornOf(log).Over, Log: disk(list[:400])}
	want.Sure = int64(len(want.Log))
	checkReborn(t, log, want)
}

// roomyShard is a copy with room behind each list, in which something stands.
func roomyShard(s shard) shard {
	s.Records = roomyRecords(s.Records)
	own := make([]ready, 0, len(s.Readies)+2)
	for _, r := range s.Readies {
		own = append(own, ready(roomyBatch(batch(r))))
	}
	own = append(own, heldReady(77, 77, cutOf(77)), ready{Tenant: 78})
	s.Readies = own[:len(s.Readies)]
	s.Over = append(slices.Clone(s.Over), 77, 78, 79)[:len(s.Over)]
	return s
}

func isAsItWas(s, was shard) bool {
	own, other := s.Readies[:len(s.Readies)+2], roomyShard(was).Readies[:len(was.Readies)+2]
	for i, r := range was.Readies {
		if !isSameBatch(batch(s.Readies[i]), batch(r)) {
			return false
		}
	}
	return areUntouched(s.Records, was.Records) && slices.EqualFunc(own, other, alikeReadies) &&
		slices.Equal(s.Over[:len(s.Over)+3], append(slices.Clone(was.Over), 77, 78, 79)) && s.Log == was.Log && s.Sure == was.Sure
}

func wipeShard(s shard) {
	for _, r := range s.Readies {
		wipe(r.Items)
	}
	wipe(s.Records)
	wipe(s.Readies)
	wipe(s.Over)
}

// shardAnswers are all Shards that are answered of one, with a Batch, and with
// each Ready and two others settled.
func shardAnswers(s shard, b batch) []shard {
	made, _ := impl.Prepared(s, b)
	all := []shard{impl.Synced(s), made}
	ask := []owner{{b.Tenant, b.Seq}, {97, 97}, {0, 0}}
	for _, r := range s.Readies[:min(len(s.Readies), 3)] {
		ask = append(ask, owner{r.Tenant, r.Seq})
	}
	for _, at := range ask {
		for _, done := range []bool{false, true} {
			made, _ := impl.Settled(s, at.tenant, at.id, done)
			all = append(all, made)
		}
		impl.Sealed(s, at.tenant, at.id)
	}
	impl.ShardOk(s)
	return append(all, impl.Reborn(s.Log))
}

func shardCases(t *testing.T) ([]shard, []batch) {
	t.Helper()
	next := someRule(260)
	var shards []shard
	var batches []batch
	all := append(slices.Concat(edgeShards()[:80], spoiledShards()), wrongShards()[:60]...)
	for _, rule := range scriptRules() {
		var s shard
		for range 40 {
			s = step(t, s, rule, next)
			all = append(all, s)
		}
	}
	wrong := wrongBatches()
	for i, s := range all {
		shards, batches = append(shards, s), append(batches, someBatch(s.Records, 99, 200, next))
		if i%4 == 0 {
			shards, batches = append(shards, s), append(batches, wrong[i%len(wrong)])
		}
		if len(s.Readies) > 0 {
			shards, batches = append(shards, s), append(batches, batch(s.Readies[0]))
		}
	}
	return shards, batches
}

func TestShardArgumentsStay(t *testing.T) {
	shards, batches := shardCases(t)
	for i, was := range shards {
		s, b := roomyShard(was), roomyBatch(batches[i])
		for _, made := range shardAnswers(s, b) {
			wipeShard(made)
		}
		if !isAsItWas(s, was) {
			t.Fatalf("%s was changed, or the room behind it", shown(was))
		}
		if !isSameBatch(b, batches[i]) {
			t.Fatalf("%v was changed, or the room behind it", batches[i])
		}
	}
}

// What is written into an argument later, or into another answer, is in none.
func TestShardAnswersAreNew(t *testing.T) {
	shards, batches := shardCases(t)
	for i, was := range shards {
		s, b := roomyShard(was), roomyBatch(batches[i])
		made := shardAnswers(s, b)
		var want []shard
		for _, one := range made {
			want = append(want, copiedShard(one))
		}
		for _, again := range shardAnswers(s, b) {
			wipeShard(again)
		}
		wipeShard(s)
		wipe(b.Items)
		for j, one := range made {
			if !alikeShards(one, want[j]) {
				t.Fatalf("answer %d of %s and %v shares its memory", j, shown(was), batches[i])
			}
			wipeShard(one)
		}
	}
}

// Of one answer no list is written into with another one, nor into its room.
func TestShardListsShareNoMemory(t *testing.T) {
	for _, was := range []shard{sixReadies(), syncedOf(sixReadies()), {Records: ownOf(3, 5), Readies: manyReadies(30), Over: manyOver(40), Log: disk(edgeEntries()[:30])}} {
		b := batchAt(88, 88, sixItems()[:1]...)
		for at := range shardAnswers(was, b) {
			count := len(shardAnswers(was, b)[at].Readies)
			for list := range count + 3 {
				made := shardAnswers(was, b)[at]
				want := copiedShard(made)
				switch list {
				case count:
					wipe(made.Records)
					made.Records = want.Records
				case count + 1:
					wipe(made.Readies)
					made.Readies = want.Readies
				case count + 2:
					wipe(made.Over)
					made.Over = want.Over
				default:
					wipe(made.Readies[list].Items)
					made.Readies[list].Items = want.Readies[list].Items
				}
				if !alikeShards(made, want) {
					t.Fatalf("list %d of answer %d of %s shares its memory", list, at, shown(was))
				}
			}
		}
	}
}

// Nothing of the memory that empty lists were cut from is answered.
func TestShardOfEmptyLists(t *testing.T) {
	records, readies, over := ownOf(7, 2), manyReadies(3), manyOver(4)
	s := shard{Records: records[:0], Readies: readies[:0], Over: over[:0]}
	for _, made := range shardAnswers(s, batchAt(3, 1, setOfItem(5, spot{}, ""))) {
		wipeShard(made)
	}
	if !slices.Equal(records, ownOf(7, 2)) || !slices.EqualFunc(readies, manyReadies(3), alikeReadies) || !slices.Equal(over, manyOver(4)) {
		t.Fatal(records, readies, over)
	}
}

// Two who go on from one Shard don't know of each other.
func TestTwoGoOnFromOneShard(t *testing.T) {
	base := checkCode(t, shard{}, batchAt(3, 1, setOfItem(5, spot{}, "base")), impl.ShYes)
	first := checkCode(t, base, batchAt(3, 2, setOfItem(6, spot{}, "first")), impl.ShYes)
	second := checkCode(t, base, batchAt(3, 3, setOfItem(7, spot{}, "second")), impl.ShYes)
	third := checkSaid(t, base, 3, 1, true, true)
	fourth := checkSaid(t, base, 3, 1, false, true)
	if len(base.Readies) != 1 || first.Readies[1].Seq != 2 || second.Readies[1].Seq != 3 || len(third.Records) != 1 || len(fourth.Records) != 0 || third.Log == fourth.Log {
		t.Fatal(shown(base), shown(first), shown(second), shown(third), shown(fourth))
	}
	for _, s := range []shard{base, first, second, third, fourth} {
		checkPromiseFourteen(t, s)
	}
}

// What was asked ahead of it, or is asked beside it, leaves nothing behind.
func TestShardsHangOnTheirArgumentsAlone(t *testing.T) {
	shards, batches := shardCases(t)
	shards, batches = shards[len(shards)-150:], batches[len(batches)-150:]
	var want [][]shard
	for i, s := range shards {
		want = append(want, shardAnswers(s, batches[i]))
	}
	var all sync.WaitGroup
	for worker := range 8 {
		all.Go(func() {
			for i := range shards {
				n := (i * (2*worker + 1)) % len(shards)
				for j, made := range shardAnswers(shards[n], batches[n]) {
					if !alikeShards(made, want[n][j]) {
						t.Errorf("answer %d of %s is another one", j, shown(shards[n]))
					}
				}
			}
		})
	}
	all.Wait()
}

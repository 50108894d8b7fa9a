package tests

import (
	"math"
	"slices"
	"sync"
	"testing"

	"loop.example/g00301/impl"
)

type deal = impl.Deal

func alikeDeals(a, b deal) bool {
	return a.Tenant == b.Tenant && a.Seq == b.Seq && alikeParts(a.Parts, b.Parts) &&
		slices.Equal(a.Shards, b.Shards) && slices.Equal(a.Votes, b.Votes) && a.State == b.State
}

func copiedDeal(d deal) deal {
	d.Parts, d.Shards, d.Votes = slices.Clone(d.Parts), slices.Clone(d.Shards), slices.Clone(d.Votes)
	for i := range d.Parts {
		d.Parts[i].Items = slices.Clone(d.Parts[i].Items)
	}
	return d
}

// isAllOf asks whether nothing but n stands in a list.
func isAllOf(list []int64, n int64) bool {
	return !slices.ContainsFunc(list, func(other int64) bool { return other != n })
}

// isDeal is the document's words of one.
func isDeal(d deal) bool {
	if len(d.Parts) < 1 || len(d.Parts) > 4 || len(d.Shards) != len(d.Parts) || len(d.Votes) != len(d.Parts) {
		return false
	}
	for i, b := range d.Parts {
		if !isBatch(b) || b.Tenant != d.Tenant || b.Seq != d.Seq {
			return false
		}
		if d.Shards[i] < 0 || d.Shards[i] > 3 || d.Votes[i] < 0 || d.Votes[i] > 2 {
			return false
		}
		for _, before := range d.Shards[:i] {
			if before >= d.Shards[i] {
				return false
			}
		}
	}
	return d.State == 0 || d.State == 2 || d.State == 1 && isAllOf(d.Votes, 1)
}

func openedOf(parts []batch, shards []int64) (deal, bool) {
	if len(parts) == 0 {
		return deal{}, false
	}
	d := deal{Tenant: parts[0].Tenant, Seq: parts[0].Seq, Parts: parts, Shards: shards}
	for range parts {
		d.Votes = append(d.Votes, 0)
	}
	if !isDeal(d) {
		return deal{}, false
	}
	return copiedDeal(d), true
}

func votedOf(d deal, shard int64, yes bool) (deal, bool) {
	if !isDeal(d) {
		return deal{}, false
	}
	made := copiedDeal(d)
	for i, n := range d.Shards {
		if n != shard || d.State != 0 || d.Votes[i] != 0 {
			continue
		}
		made.Votes[i] = 2
		if yes {
			made.Votes[i] = 1
		}
		return made, true
	}
	return made, false
}

func decidedOf(d deal, off bool) (deal, bool) {
	if !isDeal(d) {
		return deal{}, false
	}
	made := copiedDeal(d)
	if d.State != 0 {
		return made, false
	}
	if off || slices.Contains(d.Votes, 2) {
		made.State = 2
	} else if isAllOf(d.Votes, 1) {
		made.State = 1
	}
	return made, made.State != 0
}

func forgottenOf(d deal) deal {
	if !isDeal(d) {
		return deal{}
	}
	made := copiedDeal(d)
	if d.State == 0 {
		for i := range made.Votes {
			made.Votes[i] = 0
		}
	}
	return made
}

// shardsOfBits are the Shards whose bits these are.
func shardsOfBits(bits int) []int64 {
	var list []int64
	for n := range int64(4) {
		if bits>>n&1 == 1 {
			list = append(list, n)
		}
	}
	return list
}

// partsFor are right ones, as many as told, none like another.
func partsFor(tenant, seq int64, count int) []batch {
	var parts []batch
	for i := range int64(count) {
		parts = append(parts, batchAt(tenant, seq, setOfItem(5+i, spot{X: 9 * i}, "a"), cutOf(90+i)))
	}
	return parts
}

func dealFor(shards, votes []int64, state int64) deal {
	return deal{Tenant: 3, Seq: 8, Parts: partsFor(3, 8, len(shards)), Shards: slices.Clone(shards), Votes: slices.Clone(votes), State: state}
}

// numbersFrom are all lists of so many numbers from least to most.
func numbersFrom(least, most int64, count int) [][]int64 {
	all := [][]int64{{}}
	for range count {
		var longer [][]int64
		for _, list := range all {
			for n := least; n <= most; n++ {
				longer = append(longer, append(slices.Clone(list), n))
			}
		}
		all = longer
	}
	return all
}

// allDeals are the right ones of each set of Shards, with all Votes and States.
func allDeals() []deal {
	var all []deal
	for bits := 1; bits < 16; bits++ {
		shards := shardsOfBits(bits)
		for _, votes := range numbersFrom(0, 2, len(shards)) {
			all = append(all, dealFor(shards, votes, 0), dealFor(shards, votes, 2))
			if isAllOf(votes, 1) {
				all = append(all, dealFor(shards, votes, 1))
			}
		}
	}
	return all
}

// edgeDeals are right ones at the edges that the document names.
func edgeDeals() []deal {
	var all []deal
	for _, tenant := range []int64{1, 2, 98, 99} {
		for _, seq := range []int64{1, 2, greatestId - 1, greatestId} {
			for count := 1; count <= 4; count++ {
				one, six := partsFor(tenant, seq, count), partsFor(tenant, seq, count)
				for i := range count {
					one[i].Items = sixItems()[i : i+1]
					six[i].Items = sixItems()
				}
				for _, parts := range [][]batch{one, six} {
					none, yes := slices.Repeat([]int64{0}, count), slices.Repeat([]int64{1}, count)
					no := slices.Replace(slices.Clone(yes), count-1, count, 2)
					for i, votes := range [][]int64{none, yes, no, yes} {
						first, last := shardsOfBits(15)[:count], shardsOfBits(15)[4-count:]
						state := []int64{0, 0, 2, 1}[i]
						all = append(all, deal{Tenant: tenant, Seq: seq, Parts: parts, Shards: first, Votes: votes, State: state})
						all = append(all, deal{Tenant: tenant, Seq: seq, Parts: parts, Shards: last, Votes: votes, State: state})
					}
				}
			}
		}
	}
	return all
}

// dealBases are right ones, of each of which the wrong ones below have one thing
// that is not right.
func dealBases() []deal {
	all := []deal{dealFor([]int64{2}, []int64{0}, 0), dealFor([]int64{0}, []int64{1}, 1), dealFor([]int64{1, 3}, []int64{1, 0}, 0)}
	all = append(all, dealFor([]int64{0, 1, 2}, []int64{0, 2, 1}, 2), dealFor([]int64{0, 1, 2, 3}, []int64{1, 1, 1, 1}, 1))
	return append(all, dealFor([]int64{0, 1, 2, 3}, []int64{0, 0, 0, 0}, 0), dealFor([]int64{0, 1, 2, 3}, []int64{1, 1, 1, 1}, 0))
}

func wrongVotes() []int64 {
	return []int64{math.MinInt64, -2, -1, 3, 4, 1 << 32, 1<<32 + 1, math.MaxInt64}
}

// withNumber are the lists with n at each place, in the place of what is there
// and ahead of it.
func withNumber(list []int64, n int64) [][]int64 {
	all := [][]int64{append(slices.Clone(list), n)}
	for i := range list {
		all = append(all, slices.Replace(slices.Clone(list), i, i+1, n), slices.Insert(slices.Clone(list), i, n))
	}
	return all
}

// otherParts are lists of Parts that are not right for a Deal: none, too few,
// too many, and with one of another name or that is no Batch at each place.
func otherParts(d deal) [][]batch {
	all := [][]batch{nil, {}, d.Parts[1:], append(slices.Clone(d.Parts), d.Parts[0]), make([]batch, len(d.Parts)), make([]batch, 1000)}
	others := []batch{{}, batchAt(d.Tenant, d.Seq), batchAt(d.Tenant+1, d.Seq, cutOf(7)), batchAt(d.Tenant-1, d.Seq, cutOf(7)), batchAt(d.Tenant, d.Seq+1, cutOf(7)), batchAt(d.Tenant, d.Seq-1, cutOf(7))}
	others = append(others, batchAt(d.Seq, d.Tenant, cutOf(7)), batchAt(d.Tenant, d.Seq, manyItems(7)...), batchAt(d.Tenant, d.Seq, cutOf(7), cutOf(7)))
	for i, one := range wrongItems() {
		others = append(others, batchAt(d.Tenant, d.Seq, slices.Replace(manyItems(6), i%6, i%6+1, one)...))
	}
	for _, b := range others {
		for at := range d.Parts {
			if alikeBatches(b, d.Parts[at]) {
				continue
			}
			all = append(all, slices.Replace(slices.Clone(d.Parts), at, at+1, b))
		}
	}
	return all
}

// otherShards are lists of Shards that are not right for a Deal.
func otherShards(d deal) [][]int64 {
	all := [][]int64{nil, {}, d.Shards[1:], d.Shards[:len(d.Shards)-1], make([]int64, 1000)}
	for _, n := range wrongShardNumbers() {
		all = append(all, withNumber(d.Shards, n)...)
	}
	for i := 1; i < len(d.Shards); i++ {
		alike, turned := slices.Clone(d.Shards), slices.Clone(d.Shards)
		alike[i] = alike[i-1]
		turned[i-1], turned[i] = turned[i], turned[i-1]
		all = append(all, alike, turned)
	}
	return append(all, append(slices.Clone(d.Shards), 3), slices.Insert(slices.Clone(d.Shards), 0, 0))
}

// otherVotes are lists of Votes that are not right for a Deal.
func otherVotes(d deal) [][]int64 {
	all := [][]int64{nil, {}, d.Votes[1:], make([]int64, 1000)}
	for _, n := range []int64{0, 1, 2} {
		all = append(all, append(slices.Clone(d.Votes), n), slices.Insert(slices.Clone(d.Votes), 0, n))
		if d.State == 1 && n != 1 {
			for i := range d.Votes {
				all = append(all, slices.Replace(slices.Clone(d.Votes), i, i+1, n))
			}
		}
	}
	for _, n := range wrongVotes() {
		all = append(all, withNumber(d.Votes, n)...)
	}
	return all
}

// wrongDealsBy are not right by just one thing each.
func wrongDealsBy(d deal) []deal {
	var all []deal
	with := func(change func(made *deal)) {
		made := copiedDeal(d)
		change(&made)
		all = append(all, made)
	}
	for _, parts := range otherParts(d) {
		with(func(made *deal) { made.Parts = parts })
	}
	for _, shards := range otherShards(d) {
		with(func(made *deal) { made.Shards = shards })
	}
	for _, votes := range otherVotes(d) {
		with(func(made *deal) { made.Votes = votes })
	}
	for _, state := range wrongVotes() {
		with(func(made *deal) { made.State = state })
	}
	for _, tenant := range append(wrongTenants(), d.Tenant+1, d.Tenant-1) {
		with(func(made *deal) { made.Tenant = tenant })
	}
	for _, seq := range append(wrongIds(), d.Seq+1, d.Seq-1) {
		with(func(made *deal) { made.Seq = seq })
	}
	if !isAllOf(d.Votes, 1) {
		with(func(made *deal) { made.State = 1 })
	}
	return all
}

// misnamed are Deals whose Tenant or Seq is out of range in all of their Parts.
func misnamed() []deal {
	var all []deal
	for _, tenant := range wrongTenants() {
		all = append(all, deal{Tenant: tenant, Seq: 8, Parts: partsFor(tenant, 8, 2), Shards: []int64{0, 1}, Votes: []int64{1, 1}})
	}
	for _, seq := range wrongIds() {
		all = append(all, deal{Tenant: 3, Seq: seq, Parts: partsFor(3, seq, 2), Shards: []int64{0, 1}, Votes: []int64{1, 1}})
	}
	return all
}

func wrongDeals() []deal {
	all := []deal{{}, {Tenant: 3, Seq: 8}, {Parts: []batch{}, Shards: []int64{}, Votes: []int64{}}}
	// Five of each, so that one is as many as the others.
	all = append(all, dealFor([]int64{0, 1, 2, 3, 4}, make([]int64, 5), 0), dealFor([]int64{-1, 0, 1, 2, 3}, make([]int64, 5), 0))
	all = append(all, dealFor([]int64{0, 1, 2, 3, 3}, make([]int64, 5), 0), dealFor(nil, nil, 0), dealFor(nil, nil, 2))
	for _, d := range dealBases() {
		all = append(all, wrongDealsBy(d)...)
	}
	return append(all, misnamed()...)
}

func checkOpened(t *testing.T, parts []batch, shards []int64) (deal, bool) {
	t.Helper()
	got, is := impl.Opened(parts, shards)
	want, wantIs := openedOf(parts, shards)
	if is != wantIs || !alikeDeals(got, want) || impl.DealOk(got) != is {
		t.Fatalf("Opened(%v, %v) = %v, %v, not %v, %v", parts, shards, got, is, want, wantIs)
	}
	return got, is
}

func checkVoted(t *testing.T, d deal, shard int64, yes bool) (deal, bool) {
	t.Helper()
	got, is := impl.Voted(d, shard, yes)
	want, wantIs := votedOf(d, shard, yes)
	if is != wantIs || !alikeDeals(got, want) || impl.DealOk(got) != isDeal(d) {
		t.Fatalf("Voted(%v, %d, %v) = %v, %v, not %v, %v", d, shard, yes, got, is, want, wantIs)
	}
	return got, is
}

func checkDecided(t *testing.T, d deal, off bool) (deal, bool) {
	t.Helper()
	got, is := impl.Decided(d, off)
	want, wantIs := decidedOf(d, off)
	if is != wantIs || !alikeDeals(got, want) || impl.DealOk(got) != isDeal(d) {
		t.Fatalf("Decided(%v, %v) = %v, %v, not %v, %v", d, off, got, is, want, wantIs)
	}
	return got, is
}

func checkForgotten(t *testing.T, d deal) deal {
	t.Helper()
	got, want := impl.Forgotten(d), forgottenOf(d)
	if !alikeDeals(got, want) || impl.DealOk(got) != isDeal(d) {
		t.Fatalf("Forgotten(%v) = %v, not %v", d, got, want)
	}
	return got
}

func checkVoteSays(t *testing.T, d deal, shard int64, yes, want bool) deal {
	t.Helper()
	got, is := checkVoted(t, d, shard, yes)
	if is != want {
		t.Fatalf("Voted(%v, %d, %v) says %v", d, shard, yes, is)
	}
	return got
}

func checkDecideSays(t *testing.T, d deal, off, want bool, state int64) deal {
	t.Helper()
	got, is := checkDecided(t, d, off)
	if is != want || got.State != state {
		t.Fatalf("Decided(%v, %v) = %v, %v, not %v with State %d", d, off, got, is, want, state)
	}
	return got
}

// shardsAsked are all Shards there can be, and numbers that are none.
func shardsAsked() []int64 { return append([]int64{0, 1, 2, 3}, wrongShardNumbers()...) }

// checkStep is one call by a fixed rule: 12 of Voted, 2 of Decided and 1 of
// Forgotten.
func checkStep(t *testing.T, d deal, call int64) (deal, bool) {
	t.Helper()
	switch {
	case call < 12:
		return checkVoted(t, d, call/2-1, call%2 == 1)
	case call < 14:
		return checkDecided(t, d, call == 13)
	}
	made := checkForgotten(t, d)
	return made, !alikeDeals(made, d)
}

func TestDealNumbers(t *testing.T) {
	if impl.VoNone != 0 || impl.VoYes != 1 || impl.VoNo != 2 || impl.DeOpen != 0 || impl.DeDone != 1 || impl.DeOff != 2 {
		t.Fatal(impl.VoNone, impl.VoYes, impl.VoNo, impl.DeOpen, impl.DeDone, impl.DeOff)
	}
}

func TestDealOkOfRightOnes(t *testing.T) {
	for _, d := range slices.Concat(allDeals(), edgeDeals(), dealBases()) {
		if !isDeal(d) || !impl.DealOk(d) {
			t.Fatalf("%v is not right", d)
		}
	}
	for _, b := range edgeBatches() {
		d := deal{Tenant: b.Tenant, Seq: b.Seq, Parts: []batch{b, b}, Shards: []int64{0, 3}, Votes: []int64{2, 0}}
		if !impl.DealOk(d) {
			t.Fatalf("%v is not right", d)
		}
	}
}

// Of one Part to four: each list of up to five numbers as its Shards.
func TestDealOkOfAllShards(t *testing.T) {
	right := 0
	for count := 1; count <= 5; count++ {
		parts := partsFor(3, 8, count)
		for long := range 6 {
			for _, shards := range numbersFrom(-1, 4, long) {
				d := deal{Tenant: 3, Seq: 8, Parts: parts, Shards: shards, Votes: make([]int64, count)}
				if got := impl.DealOk(d); got != isDeal(d) {
					t.Fatalf("DealOk(%v) = %v", d, got)
				}
				if _, is := checkOpened(t, parts, shards); is {
					right++
				}
			}
		}
	}
	if right != 15 {
		t.Fatalf("%d are right", right)
	}
}

// Of one Part to four: each list of up to five numbers as its Votes, and each
// State.
func TestDealOkOfAllVotesAndStates(t *testing.T) {
	right := 0
	for count := 1; count <= 4; count++ {
		d := dealFor(shardsOfBits(15)[4-count:], nil, 0)
		for long := range 6 {
			for _, d.Votes = range numbersFrom(-1, 3, long) {
				for d.State = -1; d.State <= 3; d.State++ {
					got := impl.DealOk(d)
					if got != isDeal(d) {
						t.Fatalf("DealOk(%v) = %v", d, got)
					}
					if got {
						right++
					}
				}
			}
		}
	}
	if right != 2*(3+9+27+81)+4 {
		t.Fatalf("%d are right", right)
	}
}

func TestWrongDeals(t *testing.T) {
	for _, d := range wrongDeals() {
		if isDeal(d) || impl.DealOk(d) {
			t.Fatalf("%v is right", d)
		}
		for _, shard := range shardsAsked() {
			for _, yes := range []bool{false, true} {
				if got, is := impl.Voted(d, shard, yes); is || !alikeDeals(got, deal{}) {
					t.Fatalf("Voted(%v, %d, %v) = %v, %v", d, shard, yes, got, is)
				}
			}
		}
		for _, off := range []bool{false, true} {
			if got, is := impl.Decided(d, off); is || !alikeDeals(got, deal{}) {
				t.Fatalf("Decided(%v, %v) = %v, %v", d, off, got, is)
			}
		}
		if got := impl.Forgotten(d); !alikeDeals(got, deal{}) {
			t.Fatalf("Forgotten(%v) = %v", d, got)
		}
	}
}

func TestOpenedNamedEdges(t *testing.T) {
	one := []batch{batchAt(1, 1, cutOf(greatestId))}
	four := []batch{batchAt(99, greatestId, sixItems()...), batchAt(99, greatestId, cutOf(1)), batchAt(99, greatestId, sixItems()...), batchAt(99, greatestId, setOfItem(1, spot{X: 255}, "a"))}
	for _, x := range []struct {
		parts  []batch
		shards []int64
		want   deal
	}{
		{one, []int64{0}, deal{Tenant: 1, Seq: 1, Parts: one, Shards: []int64{0}, Votes: []int64{0}}},
		{one, []int64{3}, deal{Tenant: 1, Seq: 1, Parts: one, Shards: []int64{3}, Votes: []int64{0}}},
		{four, []int64{0, 1, 2, 3}, deal{Tenant: 99, Seq: greatestId, Parts: four, Shards: []int64{0, 1, 2, 3}, Votes: []int64{0, 0, 0, 0}}},
		{four[1:3], []int64{0, 3}, deal{Tenant: 99, Seq: greatestId, Parts: four[1:3], Shards: []int64{0, 3}, Votes: []int64{0, 0}}},
	} {
		if got, is := impl.Opened(x.parts, x.shards); !is || !alikeDeals(got, x.want) || !impl.DealOk(got) {
			t.Errorf("Opened(%v, %v) = %v, %v", x.parts, x.shards, got, is)
		}
	}
	for _, d := range append(edgeDeals(), allDeals()...) {
		if _, is := checkOpened(t, d.Parts, d.Shards); !is {
			t.Fatalf("%v, %v are not Opened", d.Parts, d.Shards)
		}
	}
}

func checkNotOpened(t *testing.T, parts []batch, shards []int64) {
	t.Helper()
	if got, is := impl.Opened(parts, shards); is || !alikeDeals(got, deal{}) {
		t.Fatalf("Opened(%v, %v) = %v, %v", parts, shards, got, is)
	}
}

func TestOpenedOfWrongOnes(t *testing.T) {
	checkNotOpened(t, nil, nil)
	checkNotOpened(t, []batch{}, []int64{})
	checkNotOpened(t, partsFor(3, 8, 5), []int64{0, 1, 2, 3, 4})
	checkNotOpened(t, partsFor(3, 8, 5), []int64{0, 1, 2, 3})
	checkNotOpened(t, make([]batch, 1000), make([]int64, 1000))
	for _, d := range dealBases() {
		for _, shards := range otherShards(d) {
			checkNotOpened(t, d.Parts, shards)
		}
		for _, parts := range otherParts(d) {
			if len(d.Parts) == 1 && len(parts) == 1 && isBatch(parts[0]) {
				continue // One Part alone has its own Tenant and Seq.
			}
			checkNotOpened(t, parts, d.Shards)
		}
	}
	for _, d := range misnamed() {
		checkNotOpened(t, d.Parts, d.Shards)
		checkNotOpened(t, d.Parts[:1], d.Shards[:1])
	}
	for _, b := range wrongBatches() {
		checkNotOpened(t, []batch{b}, []int64{1})
		checkNotOpened(t, []batch{b, b}, []int64{1, 2})
		checkNotOpened(t, []batch{batchOf(3, cutOf(7)), b}, []int64{0, 2})
	}
}

// What the Directory makes Parts of can be Opened.
func TestOpenedOfTheDirectorysParts(t *testing.T) {
	all, batches, lists := partCases(300, 400)
	counts := map[int]int{}
	for i, d := range all {
		parts, shards := impl.Parts(d, batches[i], lists[i])
		got, is := checkOpened(t, parts, shards)
		if is != (len(parts) > 0) || is && (got.Tenant != batches[i].Tenant || got.Seq != batches[i].Seq) {
			t.Fatalf("Opened(%v, %v) = %v, %v", parts, shards, got, is)
		}
		counts[len(parts)]++
	}
	for n := 1; n <= 4; n++ {
		if counts[n] < 10 {
			t.Fatalf("%d Parts come %d times: the rule tells too little", n, counts[n])
		}
	}
}

func TestVotedOfAll(t *testing.T) {
	taken, not := 0, 0
	for _, d := range slices.Concat(allDeals(), edgeDeals()) {
		for _, shard := range shardsAsked() {
			for _, yes := range []bool{false, true} {
				if _, is := checkVoted(t, d, shard, yes); is {
					taken++
				} else {
					not++
				}
			}
		}
	}
	if taken < 400 || not < 400 {
		t.Fatalf("%d were taken, %d not", taken, not)
	}
}

func TestVotedNamedEdges(t *testing.T) {
	d := dealFor([]int64{0, 3}, []int64{0, 0}, 0)
	for _, x := range []struct {
		shard int64
		yes   bool
		votes []int64
		is    bool
	}{
		{0, true, []int64{1, 0}, true}, {0, false, []int64{2, 0}, true}, {3, true, []int64{0, 1}, true}, {3, false, []int64{0, 2}, true},
		{1, true, []int64{0, 0}, false}, {2, false, []int64{0, 0}, false}, {-1, true, []int64{0, 0}, false}, {4, true, []int64{0, 0}, false},
	} {
		if got, is := impl.Voted(d, x.shard, x.yes); is != x.is || !alikeDeals(got, dealFor([]int64{0, 3}, x.votes, 0)) {
			t.Errorf("Voted(%v, %d, %v) = %v, %v", d, x.shard, x.yes, got, is)
		}
	}
}

// A Vote counts once: a second one of the same Shard changes nothing, whatever
// it says.
func TestVotesCountOnce(t *testing.T) {
	for bits := 1; bits < 16; bits++ {
		shards := shardsOfBits(bits)
		for _, yeses := range numbersFrom(0, 1, len(shards)) {
			d, _ := checkOpened(t, partsFor(3, 8, len(shards)), shards)
			for i, shard := range shards {
				d = checkVoteSays(t, d, shard, yeses[i] == 1, true)
				for again, other := range shards[:i+1] {
					same := checkVoteSays(t, d, other, yeses[again] == 1, false)
					turned := checkVoteSays(t, d, other, yeses[again] == 0, false)
					if !alikeDeals(same, d) || !alikeDeals(turned, d) {
						t.Fatalf("a second Vote of %d made %v and %v of %v", other, same, turned, d)
					}
				}
			}
			isAll := isAllOf(yeses, 1)
			want := int64(2)
			if isAll {
				want = 1
			}
			checkDecideSays(t, d, false, true, want)
		}
	}
}

// What is not DeOpen takes no Vote, not even of a Shard that has none yet.
func TestDecidedDealsTakeNoVotes(t *testing.T) {
	for _, d := range allDeals() {
		if d.State == 0 {
			continue
		}
		for _, shard := range shardsAsked() {
			for _, yes := range []bool{false, true} {
				if got := checkVoteSays(t, d, shard, yes, false); !alikeDeals(got, d) {
					t.Fatalf("%v became %v", d, got)
				}
			}
		}
	}
}

func TestDecidedOfAll(t *testing.T) {
	for _, d := range slices.Concat(allDeals(), edgeDeals()) {
		isNo, isAll := slices.Contains(d.Votes, 2), isAllOf(d.Votes, 1)
		for _, off := range []bool{false, true} {
			switch {
			case d.State != 0:
				checkDecideSays(t, d, off, false, d.State)
			case off || isNo:
				checkDecideSays(t, d, off, true, 2)
			case isAll:
				checkDecideSays(t, d, off, true, 1)
			default:
				checkDecideSays(t, d, off, false, 0)
			}
		}
	}
}

func TestDecidedNamedEdges(t *testing.T) {
	for _, x := range []struct {
		votes  []int64
		yes    bool
		state  int64
		isDone bool
	}{
		{[]int64{0}, false, 0, false}, {[]int64{1}, true, 1, true}, {[]int64{2}, true, 2, true},
		{[]int64{1, 1, 1, 1}, true, 1, true}, {[]int64{1, 1, 1, 0}, false, 0, false}, {[]int64{0, 1, 1, 1}, false, 0, false},
		{[]int64{1, 1, 1, 2}, true, 2, true}, {[]int64{2, 1, 1, 1}, true, 2, true}, {[]int64{0, 0, 2, 0}, true, 2, true},
		{[]int64{2, 2, 2, 2}, true, 2, true}, {[]int64{0, 0, 0, 0}, false, 0, false},
	} {
		d := dealFor(shardsOfBits(15)[:len(x.votes)], x.votes, 0)
		checkDecideSays(t, d, false, x.yes, x.state)
		// With off all of them are off, those too of which all say yes.
		checkDecideSays(t, d, true, true, 2)
	}
}

func TestForgottenOfAll(t *testing.T) {
	for _, d := range slices.Concat(allDeals(), edgeDeals()) {
		got := checkForgotten(t, d)
		want := copiedDeal(d)
		if d.State == 0 {
			want.Votes = make([]int64, len(d.Votes))
		}
		if !alikeDeals(got, want) {
			t.Fatalf("Forgotten(%v) = %v", d, got)
		}
		if again := checkForgotten(t, got); !alikeDeals(again, got) {
			t.Fatalf("Forgotten twice: %v, not %v", again, got)
		}
	}
}

// What was forgotten is as it was Opened: each Shard may vote again, and
// otherwise than before.
func TestForgottenVotesAreCastAgain(t *testing.T) {
	d, _ := checkOpened(t, partsFor(3, 8, 2), []int64{1, 2})
	fresh := copiedDeal(d)
	d = checkVoteSays(t, checkVoteSays(t, d, 1, true, true), 2, false, true)
	d = checkForgotten(t, d)
	if !alikeDeals(d, fresh) {
		t.Fatalf("%v, not %v", d, fresh)
	}
	checkDecideSays(t, d, false, false, 0)
	d = checkVoteSays(t, d, 2, true, true)
	checkDecideSays(t, d, false, false, 0)
	d = checkVoteSays(t, d, 1, true, true)
	checkDecideSays(t, d, false, true, 1)
}

// What is Decided stays, whatever is done to it, and however often.
func TestWhatIsDecidedStays(t *testing.T) {
	for _, d := range allDeals() {
		if d.State == 0 {
			continue
		}
		for call := range int64(15) {
			made, is := checkStep(t, d, call)
			if is || !alikeDeals(made, d) {
				t.Fatalf("call %d made %v of %v, and said %v", call, made, d, is)
			}
			again, isAgain := checkStep(t, made, (call*7+3)%15)
			if isAgain || !alikeDeals(again, d) {
				t.Fatalf("call %d and another one made %v of %v", call, again, d)
			}
		}
	}
}

// standingOf is what of a Deal may change.
type standingOf struct {
	votes [4]int64
	state int64
}

func standingIn(d deal) standingOf {
	s := standingOf{state: d.State}
	copy(s.votes[:], d.Votes)
	return s
}

// All that can become of what is Opened, whatever run of calls there is: it is
// right, the Parts and Shards stay, and it is each right Deal of these Shards.
func TestAllThatBecomesOfADeal(t *testing.T) {
	for bits := 1; bits < 16; bits++ {
		first, _ := checkOpened(t, partsFor(3, 8, len(shardsOfBits(bits))), shardsOfBits(bits))
		found := map[standingOf]bool{standingIn(first): true}
		for next := []deal{first}; len(next) > 0; next = next[1:] {
			for call := range int64(15) {
				made, _ := checkStep(t, next[0], call)
				if !isDeal(made) || !alikeParts(made.Parts, first.Parts) || !slices.Equal(made.Shards, first.Shards) {
					t.Fatalf("call %d made %v of %v", call, made, next[0])
				}
				if !found[standingIn(made)] {
					found[standingIn(made)] = true
					next = append(next, made)
				}
			}
		}
		if want := 2*len(numbersFrom(0, 2, len(first.Shards))) + 1; len(found) != want {
			t.Fatalf("%d became of %v, not %d", len(found), first, want)
		}
	}
}

// A witness remembers what each Shard said first since the last time that all
// was forgotten, and what was decided.
type witness struct {
	said    map[int64]bool
	decided int64
}

// hears is told of a call on an open Deal, as checkStep makes it.
func (w *witness) hears(d deal, call int64) {
	switch {
	case w.decided != 0:
	case call < 12:
		shard, yes := call/2-1, call%2 == 1
		if _, had := w.said[shard]; !had && slices.Contains(d.Shards, shard) {
			w.said[shard] = yes
		}
	case call == 13 || call == 12 && w.isRefused():
		w.decided = 2
	case call == 12 && len(w.said) == len(d.Shards):
		w.decided = 1
	case call == 14:
		clear(w.said)
	}
}

func (w *witness) isRefused() bool {
	for _, yes := range w.said {
		if !yes {
			return true
		}
	}
	return false
}

// isAsHeard asks whether a Deal is what the witness has heard: Done only where
// each of its Shards said yes.
func (w *witness) isAsHeard(d deal) bool {
	for i, shard := range d.Shards {
		yes, had := w.said[shard]
		if !had && d.Votes[i] != 0 || had && yes != (d.Votes[i] == 1) || had && d.Votes[i] == 0 {
			return false
		}
		if d.State == 1 && !yes {
			return false
		}
	}
	return d.State == w.decided
}

func TestDealScripts(t *testing.T) {
	next := someRule(410)
	ended := map[int64]int{}
	for script := range 1200 {
		shards := shardsOfBits(1 + script%15)
		tenant, seq := 1+next(99), 1+next(greatestId)
		d, _ := checkOpened(t, partsFor(tenant, seq, len(shards)), shards)
		w := &witness{said: map[int64]bool{}}
		for range 25 {
			call := 1 + 2*(1+next(4))
			if next(3) == 0 {
				call = []int64{12, 12, 14, 13, next(12), next(12), next(12)}[next(7)]
			}
			was := d
			w.hears(d, call)
			d, _ = checkStep(t, d, call)
			if !w.isAsHeard(d) {
				t.Fatalf("call %d made %v of %v, where %v was heard", call, d, was, w)
			}
			if was.State != 0 && !alikeDeals(d, was) {
				t.Fatalf("%v was decided, and became %v", was, d)
			}
		}
		ended[d.State]++
	}
	if ended[0] < 30 || ended[1] < 200 || ended[2] < 200 {
		t.Fatalf("they end as %v: the rule tells too little", ended)
	}
}

// roomyDeal is a copy with room behind each list, in which something stands.
func roomyDeal(d deal) deal {
	d.Parts = roomyParts(d.Parts)
	d.Shards = roomyNumbers(d.Shards)
	d.Votes = roomyNumbers(d.Votes)
	return d
}

func roomyParts(parts []batch) []batch {
	made := make([]batch, 0, len(parts)+2)
	for _, b := range parts {
		made = append(made, roomyBatch(b))
	}
	return append(made, batchAt(77, 77, cutOf(77)), batch{Tenant: 78})[:len(parts)]
}

func roomyNumbers(list []int64) []int64 {
	return append(slices.Clone(list), 77, 78, 79)[:len(list)]
}

func areSameParts(parts, was []batch) bool {
	for i, b := range was {
		if !isSameBatch(parts[i], b) {
			return false
		}
	}
	return alikeParts(parts[:len(parts)+2], roomyParts(was)[:len(was)+2])
}

func areSameNumbers(list, was []int64) bool {
	return slices.Equal(list[:len(list)+3], roomyNumbers(was)[:len(was)+3])
}

func isSameDeal(d, was deal) bool {
	return d.Tenant == was.Tenant && d.Seq == was.Seq && d.State == was.State &&
		areSameParts(d.Parts, was.Parts) && areSameNumbers(d.Shards, was.Shards) && areSameNumbers(d.Votes, was.Votes)
}

// scrawl writes what no answer has: of no Votes, a nought would not be seen.
func scrawl(list []int64) {
	list = list[:cap(list)]
	for i := range list {
		list[i] = -77
	}
}

func scrawlDeal(d deal) {
	for _, b := range d.Parts {
		wipe(b.Items)
	}
	wipe(d.Parts)
	scrawl(d.Shards)
	scrawl(d.Votes)
}

// dealAnswers are all Deals that are answered of one, and of its Parts and
// Shards.
func dealAnswers(d deal) []deal {
	opened, _ := impl.Opened(d.Parts, d.Shards)
	all := []deal{opened, impl.Forgotten(d)}
	for _, shard := range []int64{-1, 0, 1, 2, 3, 4} {
		yes, _ := impl.Voted(d, shard, true)
		no, _ := impl.Voted(d, shard, false)
		all = append(all, yes, no)
	}
	for _, off := range []bool{false, true} {
		made, _ := impl.Decided(d, off)
		all = append(all, made)
	}
	impl.DealOk(d)
	return all
}

func dealCases() []deal { return slices.Concat(allDeals(), edgeDeals(), wrongDeals()) }

func TestDealArgumentsStay(t *testing.T) {
	for _, was := range dealCases() {
		d := roomyDeal(was)
		for _, made := range dealAnswers(d) {
			scrawlDeal(made)
		}
		if !isSameDeal(d, was) {
			t.Fatalf("%v was changed, or the room behind it: %v", was, d)
		}
	}
}

// What is written into an argument later, or into another answer, is in none.
func TestDealAnswersAreNew(t *testing.T) {
	for _, was := range dealCases() {
		d := roomyDeal(was)
		got := dealAnswers(d)
		var want []deal
		for _, made := range got {
			want = append(want, copiedDeal(made))
		}
		for _, made := range dealAnswers(d) {
			scrawlDeal(made)
		}
		scrawlDeal(d)
		for i := range got {
			if !slices.EqualFunc(got, want, alikeDeals) {
				t.Fatalf("an answer of %v shares its memory", was)
			}
			scrawlDeal(got[i])
			got[i] = want[i]
		}
	}
}

// areAllBut asks whether a Deal is as told, but for the list of that number: its
// Votes, its Shards, or the Items of a Part.
func areAllBut(list int, d, want deal) bool {
	d = copiedDeal(d)
	switch list {
	case 0:
		d.Votes = want.Votes
	case 1:
		d.Shards = want.Shards
	default:
		d.Parts[list-2].Items = want.Parts[list-2].Items
	}
	return alikeDeals(d, want)
}

func scrawlList(list int, d deal) {
	switch list {
	case 0:
		scrawl(d.Votes)
	case 1:
		scrawl(d.Shards)
	default:
		wipe(d.Parts[list-2].Items)
	}
}

// Of one answer no list is written into with another one, nor into its room,
// also where its Parts came in with one and the same list of Items.
func TestDealListsShareNoMemory(t *testing.T) {
	items := sixItems()
	shared := []batch{batchAt(3, 8, items...), batchAt(3, 8, items[:2]...), batchAt(3, 8, items[2:]...), batchAt(3, 8, items...)}
	numbers := []int64{0, 1, 2, 3}
	same := deal{Tenant: 3, Seq: 8, Parts: shared[2:], Shards: numbers[1:3], Votes: numbers[1:3]}
	for _, d := range append(edgeDeals(), deal{Tenant: 3, Seq: 8, Parts: shared, Shards: numbers, Votes: []int64{1, 1, 1, 1}}, same) {
		if !isDeal(d) {
			t.Fatalf("%v is not right", d)
		}
		for list := range 2 + len(d.Parts) {
			for n, made := range dealAnswers(d) {
				want := copiedDeal(made)
				scrawlList(list, made)
				if !areAllBut(list, made, want) {
					t.Fatalf("answer %d of %v: its list %d shares its memory", n, d, list)
				}
			}
		}
	}
}

// Two who go on from one Deal don't know of each other.
func TestTwoGoOnFromOneDeal(t *testing.T) {
	base, _ := checkOpened(t, partsFor(3, 8, 2), []int64{0, 1})
	base = checkVoteSays(t, base, 0, true, true)
	yes := checkVoteSays(t, base, 1, true, true)
	no := checkVoteSays(t, base, 1, false, true)
	off := checkDecideSays(t, base, true, true, 2)
	none := checkForgotten(t, base)
	checkDecideSays(t, yes, false, true, 1)
	checkDecideSays(t, no, false, true, 2)
	checkDecideSays(t, none, false, false, 0)
	for i, d := range []deal{base, yes, no, off, none} {
		votes := [][]int64{{1, 0}, {1, 1}, {1, 2}, {1, 0}, {0, 0}}[i]
		if !slices.Equal(d.Votes, votes) {
			t.Fatalf("%v, not %v", d.Votes, votes)
		}
	}
}

// What was asked ahead of it, or is asked beside it, leaves nothing behind.
func TestDealsHangOnTheirArgumentsAlone(t *testing.T) {
	all := dealCases()
	var want [][]deal
	for _, d := range all {
		want = append(want, dealAnswers(d))
	}
	var workers sync.WaitGroup
	for worker := range 8 {
		workers.Go(func() {
			for i := range all {
				n := (i*(2*worker+1) + worker) % len(all)
				if !slices.EqualFunc(dealAnswers(all[n]), want[n], alikeDeals) {
					t.Errorf("the answers of %v are others", all[n])
				}
			}
		})
	}
	workers.Wait()
}

package tests

import (
	"math"
	"math/big"
	"slices"
	"strings"
	"sync"
	"testing"

	"loop.example/g00301/impl"
)

const greatestSeal = 2147483646

// sealOf is a Seal worked out as one great number, of which key and each byte
// and 1 are the digits by 1000003: what is left over of it at the end, and not
// from byte to byte.
func sealOf(key int64, text string) int64 {
	times := big.NewInt(1000003)
	number := big.NewInt(key)
	for _, b := range []byte(text + "\x00\x00\x00\x00\x00\x00\x00") {
		number.Mul(number, times)
		number.Add(number, big.NewInt(int64(b)+1))
	}
	return number.Mod(number, big.NewInt(2147483647)).Int64()
}

func chainOf(key int64, list []string) int64 {
	if len(list) == 0 {
		return key
	}
	last := len(list) - 1
	return sealOf(chainOf(key, list[:last]), list[last])
}

func rightKeys() []int64 {
	return []int64{0, 1, 2, 7, 255, 256, 1000003, 1 << 30, 1<<31 - 3, greatestSeal}
}

func wrongKeys() []int64 {
	return []int64{math.MinInt64, math.MinInt64 + 1, -greatestSeal, -2, -1, greatestSeal + 1, greatestSeal + 2, 1 << 32, 1<<32 + 7, math.MaxInt64 - 1, math.MaxInt64}
}

// allBytes is a text of each byte once, from 0 to 255.
func allBytes() string {
	var text []byte
	for b := range 256 {
		text = append(text, byte(b))
	}
	return string(text)
}

// shortTexts are the texts of none and of one byte, and some of few bytes:
// those that are no right runes as well, and one whose rune has two bytes.
func shortTexts() []string {
	list := []string{"", "ab", "ba", "a ", " a", "\x00\x00", "\x00\xff", "\xff\x00", "\xff\xff", "\u00e9", "\xc3", "\xed\xa0\x80", "a\nb\n", "2147483646"}
	for b := range 256 {
		list = append(list, string([]byte{byte(b)}))
	}
	return list
}

func longTexts() []string {
	var list []string
	for _, count := range []int{7, 8, 100, 199, 200} {
		list = append(list, strings.Repeat("\x00", count), strings.Repeat("\xff", count), strings.Repeat("z", count))
	}
	return append(list, allBytes()[:200], allBytes()[56:])
}

func tooLongTexts() []string {
	return []string{strings.Repeat("\x00", 201), strings.Repeat("\xff", 201), strings.Repeat("ab", 101), allBytes(), strings.Repeat("seal", 5000)}
}

func someText(count int64, next func(below int64) int64) string {
	var text []byte
	for range count {
		text = append(text, byte(next(1<<16)>>8))
	}
	return string(text)
}

// someChains are lists of 0 to 10 texts by a fixed rule: some of them empty,
// some of 200 bytes, some alike.
func someChains(n int, seed uint32) [][]string {
	next := someRule(seed)
	all := make([][]string, n)
	for i := range all {
		most := []int64{1, 2, 5, 40, 201}[i%5]
		for range i % 11 {
			all[i] = append(all[i], someText(next(most), next))
		}
	}
	return all
}

func edgeChains() [][]string {
	all := [][]string{nil, {}, {""}, {"", ""}, {"\x00"}, {"\xff"}, {"ab", "c"}, {"a", "bc"}, {"abc"}, {"", "abc"}, {"abc", ""}, {"a", "b", "c"}}
	for _, text := range []string{"", "\x00", "\xff", "z", strings.Repeat("\x00", 200), strings.Repeat("\xff", 200)} {
		all = append(all, []string{text}, slices.Repeat([]string{text}, 9), slices.Repeat([]string{text}, 10))
	}
	return all
}

func rightChains() [][]string { return append(edgeChains(), someChains(60, 31)...) }

func checkSeal(t *testing.T, key int64, text string) {
	t.Helper()
	got := impl.Seal(key, text)
	if want := sealOf(key, text); got != want {
		t.Fatalf("Seal(%d, %q) = %d, not %d", key, text, got, want)
	}
	if got < 0 || got > greatestSeal {
		t.Fatalf("Seal(%d, %q) = %d is no key", key, text, got)
	}
}

func checkChain(t *testing.T, key int64, list []string, want int64) {
	t.Helper()
	if got := impl.Chain(key, list); got != want {
		t.Fatalf("Chain(%d, %q) = %d, not %d", key, list, got, want)
	}
}

func checkLonger(t *testing.T, tag int64, text string, want int64) {
	t.Helper()
	if got := impl.Longer(tag, text); got != want {
		t.Fatalf("Longer(%d, %q) = %d, not %d", tag, text, got, want)
	}
}

func TestSealLimit(t *testing.T) {
	if impl.MaxSeal != greatestSeal {
		t.Fatal(impl.MaxSeal)
	}
}

func TestSealIsWhatIsLeftOver(t *testing.T) {
	for _, key := range rightKeys() {
		for _, text := range slices.Concat(shortTexts(), longTexts()) {
			checkSeal(t, key, text)
		}
	}
	next := someRule(32)
	for range 2000 {
		key := next(1<<23)<<8 | next(256)
		checkSeal(t, min(key, greatestSeal), someText(next(201), next))
	}
}

// How long a text may be is said of Chain, not of Seal.
func TestSealOfTextsThatNoChainHas(t *testing.T) {
	for _, key := range rightKeys() {
		for _, text := range tooLongTexts() {
			checkSeal(t, key, text)
		}
	}
}

func TestSealNamedEdges(t *testing.T) {
	for _, c := range []struct {
		key  int64
		text string
		want int64
	}{
		{0, "", 1653857658},
		{7, "", 2054946346},
		{greatestSeal, "", 1596559274},
		{0, "\x00", 1711156042},
		{7, "\x00", 1786704622},
		{greatestSeal, "\x00", 166446497},
		{0, "\xff", 1289858433},
		{7, "\xff", 1365407013},
		{greatestSeal, "\xff", 1892632535},
		{0, "a", 826648349},
		{7, "ab", 126087486},
		{0, "\x00\x00", 1108381940},
		{0, "\u00e9", 625041296},
		{7, strings.Repeat("\x00", 200), 1813492399},
		{0, strings.Repeat("\xff", 200), 1711559566},
		{greatestSeal, strings.Repeat("\xff", 200), 1405970876},
		{greatestSeal, strings.Repeat("\xff", 201), 2096538591},
		{7, allBytes(), 645041884},
		// Of each text one key is its own Seal.
		{712690415, "", 712690415},
	} {
		if got := impl.Seal(c.key, c.text); got != c.want {
			t.Errorf("Seal(%d, %q) = %d, not %d", c.key, c.text, got, c.want)
		}
	}
}

// The Seals of one key and of texts of one length are unlike where just one
// byte is: what it adds is less than the modulus, and that is a prime.
func TestTextsUnlikeInOneByte(t *testing.T) {
	texts := []string{"\x00", "ab", "\xff\xff\xff", "whose is what", strings.Repeat("\x00", 200), allBytes()[:200]}
	for _, key := range []int64{0, 7, greatestSeal} {
		for _, text := range texts {
			for at := range len(text) {
				checkUnlikeAt(t, key, text, at)
			}
		}
	}
}

// checkUnlikeAt puts each byte at one place of a text.
func checkUnlikeAt(t *testing.T, key int64, text string, at int) {
	t.Helper()
	seen := map[int64]string{}
	for b := range 256 {
		other := text[:at] + string([]byte{byte(b)}) + text[at+1:]
		got := impl.Seal(key, other)
		if had, is := seen[got]; is {
			t.Fatalf("by %d %q and %q have one Seal, %d", key, had, other, got)
		}
		seen[got] = other
	}
}

func TestKeysThatAreUnlikeSealUnlike(t *testing.T) {
	for _, text := range slices.Concat(shortTexts()[:20], longTexts()) {
		seen := map[int64]int64{}
		for _, key := range rightKeys() {
			got := impl.Seal(key, text)
			if had, is := seen[got]; is {
				t.Fatalf("%q has one Seal by %d and by %d", text, had, key)
			}
			seen[got] = key
		}
	}
}

// More bytes are another text, those too that end each Seal.
func TestTextsOfOtherLengths(t *testing.T) {
	for _, key := range []int64{0, 7, greatestSeal} {
		for _, b := range []string{"\x00", "\xff", "a"} {
			var seals []int64
			for count := range 300 {
				seals = append(seals, impl.Seal(key, strings.Repeat(b, count)))
			}
			slices.Sort(seals)
			if len(slices.Compact(seals)) != 300 {
				t.Fatalf("by %d two counts of %q have one Seal", key, b)
			}
		}
	}
}

func TestChainIsSealAfterSeal(t *testing.T) {
	for _, key := range rightKeys() {
		for _, list := range rightChains() {
			tag := key
			for _, text := range list {
				tag = impl.Seal(tag, text)
			}
			checkChain(t, key, list, tag)
			checkChain(t, key, list, chainOf(key, list))
		}
	}
}

func TestLongerIsTheChainOfAll(t *testing.T) {
	for _, key := range rightKeys() {
		for _, list := range rightChains() {
			tag := impl.Chain(key, nil)
			for i, text := range list {
				tag = impl.Longer(tag, text)
				checkChain(t, key, list[:i+1], tag)
				checkLonger(t, impl.Chain(key, list[:i]), text, tag)
			}
			if want := chainOf(key, list); tag != want {
				t.Fatalf("made Longer by %q, %d is %d, not %d", list, key, tag, want)
			}
		}
	}
}

// A Chain goes on from a tag as from a key.
func TestChainsOfAPiece(t *testing.T) {
	for _, key := range []int64{0, 7, greatestSeal} {
		for _, list := range rightChains() {
			for i := range list {
				checkChain(t, impl.Chain(key, list[:i]), list[i:], chainOf(key, list))
			}
		}
	}
}

func TestLongerIsSealByTag(t *testing.T) {
	for _, tag := range rightKeys() {
		for _, text := range slices.Concat(shortTexts(), longTexts()) {
			checkLonger(t, tag, text, sealOf(tag, text))
		}
	}
}

func TestChainNamedEdges(t *testing.T) {
	ff := strings.Repeat("\xff", 200)
	for _, c := range []struct {
		key  int64
		list []string
		want int64
	}{
		{0, nil, 0},
		{7, nil, 7},
		{7, []string{}, 7},
		{greatestSeal, nil, greatestSeal},
		{0, []string{""}, 1653857658},
		{greatestSeal, []string{"\xff"}, 1892632535},
		{7, []string{"ab", "c"}, 2483350},
		{0, []string{"a", "b"}, 102030621},
		{0, []string{"b", "a"}, 1872749363},
		{0, []string{"ab"}, 1941626853},
		{7, []string{"\x00", "\x01", "\x02", "\x03", "\x04", "\x05", "\x06", "\x07", "\x08", "\x09"}, 2014801787},
		{0, slices.Repeat([]string{""}, 10), 1823033597},
		{greatestSeal, slices.Repeat([]string{""}, 10), 2102610348},
		{0, slices.Repeat([]string{ff}, 10), 735963226},
		{7, slices.Repeat([]string{ff}, 10), 1330881134},
		{greatestSeal, slices.Repeat([]string{ff}, 10), 1878108466},
	} {
		checkChain(t, c.key, c.list, c.want)
	}
}

func TestLongerNamedEdges(t *testing.T) {
	checkLonger(t, 126087486, "c", 2483350)
	checkLonger(t, 0, "", 1653857658)
	checkLonger(t, greatestSeal, "\x00", 166446497)
	checkLonger(t, greatestSeal, strings.Repeat("\xff", 200), 1405970876)
	// A tag doesn't tell of how many texts it is the Chain.
	ten := slices.Repeat([]string{"z"}, 10)
	checkLonger(t, impl.Chain(7, ten), "z", chainOf(7, append(ten, "z")))
}

// otherChains are those with one text more, less or changed, with two that
// have changed places, and with two that became one.
func otherChains(list []string) [][]string {
	var all [][]string
	for i := range len(list) + 1 {
		for _, text := range []string{"", "\x00", "x"} {
			if len(list) < 10 {
				all = append(all, slices.Insert(slices.Clone(list), i, text))
			}
		}
	}
	for i, text := range list {
		all = append(all, slices.Delete(slices.Clone(list), i, i+1))
		for _, other := range otherTexts(text) {
			changed := slices.Clone(list)
			changed[i] = other
			all = append(all, changed)
		}
		if i == 0 {
			continue
		}
		turned := slices.Clone(list)
		turned[i-1], turned[i] = turned[i], turned[i-1]
		all = append(all, turned)
		if both := list[i-1] + text; len(both) <= 200 {
			all = append(all, slices.Replace(slices.Clone(list), i-1, i+1, both))
		}
	}
	return slices.DeleteFunc(all, func(other []string) bool { return slices.Equal(other, list) })
}

// otherTexts are those that have one byte more, less, or changed.
func otherTexts(text string) []string {
	var all []string
	if len(text) < 200 {
		all = append(all, text+"\x00", "\x00"+text, text+"x")
	}
	if text == "" {
		return all
	}
	last := len(text) - 1
	return append(all, text[1:], text[:last],
		string([]byte{text[0] + 1})+text[1:],
		text[:last]+string([]byte{text[last] ^ 128}))
}

// None of these Seals Clash: unlike lists have unlike Chains.
func TestOneTextMoreOrLessOrChanged(t *testing.T) {
	for _, key := range []int64{0, 7, 1000003, greatestSeal} {
		for _, list := range rightChains() {
			tag := impl.Chain(key, list)
			for _, other := range otherChains(list) {
				if got := impl.Chain(key, other); got == tag || got < 0 {
					t.Fatalf("by %d the Chain of %q is %d, that of %q %d", key, list, tag, other, got)
				}
			}
		}
	}
}

// A text that is changed in one byte is another Chain, whatever stands behind
// it: from unlike tags on, alike texts have unlike Seals.
func TestChainsUnlikeInOneByte(t *testing.T) {
	list := []string{"a", "\x00\x00", strings.Repeat("\xff", 200), "", "whose", "is", "what", "lies", "where", "\xff"}
	for at, text := range list {
		if text == "" {
			continue
		}
		seen := map[int64]int{}
		for b := range 256 {
			other := slices.Clone(list)
			other[at] = string([]byte{byte(b)}) + text[1:]
			tag := impl.Chain(7, other)
			if had, is := seen[tag]; is {
				t.Fatalf("of %q one Chain where text %d begins with %d and with %d", list, at, had, b)
			}
			seen[tag] = b
		}
	}
}

// clashes are pairs of unlike texts that have one Seal by every key: what their
// bytes are apart, as digits by 1000003, is a multiple of the modulus.
func clashes() [][2]string {
	a, b := "\x25\x00\x1a\x70", "\x00\x5c\x00\x00"
	pairs := [][2]string{{a, b}, {"\x32\x62\x00\x00", "\x24\x3f\xb7\x55"}}
	long := strings.Repeat("z", 98)
	return append(pairs, [2]string{"of" + a, "of" + b}, [2]string{a + "of", b + "of"}, [2]string{long + a + long, long + b + long})
}

// Where two Seals Clash, Chains are alike from there on.
func TestChainsOfSealsThatClash(t *testing.T) {
	for _, key := range rightKeys() {
		for _, pair := range clashes() {
			first, second := impl.Seal(key, pair[0]), impl.Seal(key, pair[1])
			if first != second || first != sealOf(key, pair[0]) || second != sealOf(key, pair[1]) {
				t.Fatalf("by %d: %q has %d, %q has %d", key, pair[0], first, pair[1], second)
			}
			for _, more := range [][]string{nil, {""}, {"ab", "c"}, slices.Repeat([]string{"\xff"}, 8)} {
				one := slices.Concat([]string{"ahead", pair[0]}, more)
				other := slices.Concat([]string{"ahead", pair[1]}, more)
				checkChain(t, key, other, impl.Chain(key, one))
			}
		}
	}
}

func TestWrongKeysHaveNoSeal(t *testing.T) {
	for _, key := range wrongKeys() {
		for _, text := range slices.Concat(shortTexts()[:20], longTexts(), tooLongTexts()) {
			if got := impl.Seal(key, text); got != -1 {
				t.Fatalf("Seal(%d, %q) = %d", key, text, got)
			}
			checkLonger(t, key, text, -1)
		}
		for _, list := range slices.Concat(rightChains(), wrongChains()) {
			checkChain(t, key, list, -1)
		}
	}
}

// wrongChains have more than 10 texts, or one of more than 200 bytes, at each
// place.
func wrongChains() [][]string {
	var all [][]string
	for _, count := range []int{11, 12, 20, 1000} {
		for _, text := range []string{"", "a", strings.Repeat("z", 200), strings.Repeat("z", 201)} {
			all = append(all, slices.Repeat([]string{text}, count))
		}
	}
	for _, text := range tooLongTexts() {
		for count := 1; count <= 10; count++ {
			for at := range count {
				list := slices.Repeat([]string{"ab"}, count)
				list[at] = text
				all = append(all, list)
			}
		}
	}
	return all
}

func TestWrongTextsHaveNoChain(t *testing.T) {
	for _, key := range rightKeys() {
		for _, list := range wrongChains() {
			checkChain(t, key, list, -1)
		}
		for _, text := range tooLongTexts() {
			checkLonger(t, key, text, -1)
		}
	}
}

// What was refused can't be made Longer.
func TestLongerOfWhatWasRefused(t *testing.T) {
	for _, list := range wrongChains() {
		checkLonger(t, impl.Chain(7, list), "a", -1)
	}
	checkLonger(t, impl.Seal(-1, "a"), "a", -1)
	checkLonger(t, impl.Longer(greatestSeal+1, "a"), "a", -1)
}

func TestChainArgumentsStay(t *testing.T) {
	for _, key := range []int64{-1, 0, 7, greatestSeal, greatestSeal + 1} {
		for _, list := range slices.Concat(rightChains(), wrongChains()) {
			all := append(slices.Clone(list), "behind", "it")
			was := slices.Clone(all)
			impl.Chain(key, all[:len(list)])
			if !slices.Equal(all, was) {
				t.Fatalf("%q became %q", was, all)
			}
		}
	}
}

// What was asked ahead of it, or is asked beside it, leaves nothing behind.
func TestSealsHangOnKeyAndTextAlone(t *testing.T) {
	lists := rightChains()
	var all sync.WaitGroup
	for worker := range 8 {
		all.Go(func() {
			for i := range lists {
				list := lists[(i*(2*worker+1))%len(lists)]
				impl.Seal(-1, "a")
				impl.Longer(7, strings.Repeat("a", 201))
				if got, want := impl.Chain(int64(worker), list), chainOf(int64(worker), list); got != want {
					t.Errorf("Chain(%d, %q) = %d, not %d", worker, list, got, want)
				}
			}
		})
	}
	all.Wait()
	for range 3 {
		checkSeal(t, 7, "ab")
		checkSeal(t, 8, "ab")
		checkChain(t, 7, []string{"ab", "c"}, 2483350)
	}
}

package tests

import (
	"encoding/hex"
	"fmt"
	"math"
	"math/big"
	"regexp"
	"slices"
	"strconv"
	"strings"
	"sync"
	"testing"
	"unsafe"

	"loop.example/g00301/impl"
)

type entry = impl.Entry

func readyOf(tenant, seq int64, items ...item) entry {
	return entry{Kind: 1, Tenant: tenant, Seq: seq, Items: items}
}

func doneOf(tenant, seq int64) entry { return entry{Kind: 2, Tenant: tenant, Seq: seq} }

func offOf(tenant, seq int64) entry { return entry{Kind: 3, Tenant: tenant, Seq: seq} }

func isEntry(e entry) bool {
	if e.Kind == 1 {
		return isBatch(batch{Tenant: e.Tenant, Seq: e.Seq, Items: e.Items})
	}
	return (e.Kind == 2 || e.Kind == 3) && e.Tenant >= 1 && e.Tenant <= 99 && e.Seq >= 1 && e.Seq <= greatestId && len(e.Items) == 0
}

func alikeEntries(a, b entry) bool {
	return a.Kind == b.Kind && a.Tenant == b.Tenant && a.Seq == b.Seq && slices.Equal(a.Items, b.Items)
}

// checkOf is what the bytes are as digits of 53 behind a 13, and only at the
// end what is left of it.
func checkOf(s string) int64 {
	h := big.NewInt(13)
	for _, b := range []byte(s) {
		h.Add(h.Mul(h, big.NewInt(53)), big.NewInt(int64(b)))
	}
	return h.Mod(h, big.NewInt(999983)).Int64()
}

// lineOf is a line with the right Check, whatever the rest is.
func lineOf(rest string) string { return fmt.Sprintf("%d %s\n", checkOf(rest), rest) }

func restOf(e entry) string {
	rest := fmt.Sprint(e.Kind, " ", e.Tenant, " ", e.Seq)
	for _, i := range e.Items {
		rest += fmt.Sprintf(" %d %d %d %d %d ", i.Kind, i.Id, i.At.X, i.At.Y, len(i.Text))
		if i.Text == "" {
			rest += "-"
		} else {
			rest += fmt.Sprintf("%x", i.Text)
		}
	}
	return rest
}

func disk(list []entry) string {
	var all strings.Builder
	for _, e := range list {
		all.WriteString(lineOf(restOf(e)))
	}
	return all.String()
}

const numberForm = `(0|[1-9][0-9]*)`

var lineForm = regexp.MustCompile(`\A` + numberForm + ` (` + numberForm + ` ` + numberForm + ` ` + numberForm + `((?: [^ ]+ [^ ]+ [^ ]+ [^ ]+ [^ ]+ [^ ]+)*))\n\z`)

var itemForm = regexp.MustCompile(`\A` + numberForm + ` ` + numberForm + ` ` + numberForm + ` ` + numberForm + ` ` + numberForm + ` (-|(?:[0-9a-f][0-9a-f])+)\z`)

// numbersOf reads digits; what is too great for any field is -1.
func numbersOf(words []string) []int64 {
	var list []int64
	for _, w := range words {
		n, err := strconv.ParseInt(w, 10, 64)
		if err != nil {
			n = -1
		}
		list = append(list, n)
	}
	return list
}

func itemFrom(text string) (item, bool) {
	found := itemForm.FindStringSubmatch(text)
	if found == nil {
		return item{}, false
	}
	n := numbersOf(found[1:6])
	one := item{Kind: n[0], Id: n[1], At: spot{X: n[2], Y: n[3]}}
	if found[6] != "-" {
		bytes, _ := hex.DecodeString(found[6])
		one.Text = string(bytes)
	}
	return one, n[4] == int64(len(one.Text))
}

// entryFrom reads a line by its form, without showing any Entry.
func entryFrom(line string) (entry, bool) {
	found := lineForm.FindStringSubmatch(line)
	if found == nil {
		return entry{}, false
	}
	n := numbersOf([]string{found[1], found[3], found[4], found[5]})
	e := entry{Kind: n[1], Tenant: n[2], Seq: n[3]}
	words := strings.Split(found[6], " ")[1:] // it begins with a blank, or is empty
	for own := range slices.Chunk(words, 6) {
		one, is := itemFrom(strings.Join(own, " "))
		if !is {
			return entry{}, false
		}
		e.Items = append(e.Items, one)
	}
	return e, n[0] == checkOf(found[2]) && isEntry(e)
}

func entriesOf(disk string) ([]entry, int64) {
	var all []entry
	taken := 0
	for line := range strings.Lines(disk) {
		e, is := entryFrom(line)
		if !is {
			break
		}
		all = append(all, e)
		taken += len(line)
	}
	return all, int64(taken)
}

func checkEntries(t *testing.T, disk string, want []entry, taken int64) {
	t.Helper()
	if got, n := impl.Entries(disk); n != taken || !slices.EqualFunc(got, want, alikeEntries) {
		t.Fatalf("Entries(%.400q) = %#v, %d, not %#v, %d", disk, got, n, want, taken)
	}
}

func checkAsRead(t *testing.T, disk string) {
	t.Helper()
	want, taken := entriesOf(disk)
	checkEntries(t, disk, want, taken)
}

// checkNoLine asks that the text is no line by itself and at the end of a disk,
// and that it ends what is read of a disk that goes on behind it.
func checkNoLine(t *testing.T, line string) {
	t.Helper()
	ahead := []entry{doneOf(4, 7), readyOf(4, 8, sixItems()...)}
	behind := disk([]entry{offOf(4, 9), doneOf(4, 8)})
	first := disk(ahead)
	if _, is := entryFrom(line); is {
		t.Fatalf("%q is a line", line)
	}
	checkEntries(t, line, nil, 0)
	checkEntries(t, line+behind, nil, 0)
	checkEntries(t, first+line, ahead, int64(len(first)))
	checkEntries(t, first+line+behind, ahead, int64(len(first)))
}

func journalTexts() []string {
	return append(rightTexts(), "\n", "-", "--", "\x00\n \xff", strings.Repeat("\n", 20), strings.Repeat(" ", 20), strings.Repeat("\xff", 20), "1 2 3", "0a", allBytes()[:20])
}

// edgeEntries are right ones at the edges that the document names.
func edgeEntries() []entry {
	var all []entry
	for _, b := range edgeBatches() {
		all = append(all, readyOf(b.Tenant, b.Seq, b.Items...))
	}
	for _, tenant := range []int64{1, 2, 9, 10, 98, 99} {
		for _, seq := range rightIds() {
			all = append(all, doneOf(tenant, seq), offOf(tenant, seq), entry{Kind: 2, Tenant: tenant, Seq: seq, Items: []item{}})
		}
	}
	for i, text := range journalTexts() {
		all = append(all, readyOf(99, greatestId, setOfItem(1, gridCorners()[i%4], text), cutOf(greatestId)))
	}
	for b := range 256 {
		all = append(all, readyOf(7, 9, setOfItem(4, spot{X: int64(b)}, string([]byte{byte(b)}))))
	}
	return append(all, readyOf(99, greatestId, fullest()...))
}

// fullest are Items whose line has all that can stand in one.
func fullest() []item {
	var list []item
	for i := range int64(6) {
		list = append(list, setOfItem(greatestId-i, spot{X: 255, Y: 255}, strings.Repeat("\xff", 20)))
	}
	return list
}

func someEntry(next func(below int64) int64) entry {
	e := entry{Kind: 1 + next(3), Tenant: 1 + next(99), Seq: 1 + next(greatestId)}
	if e.Kind == 1 {
		e.Items = someBatch(nil, 99, 200, next).Items
	}
	return e
}

func someEntries(count int, seed uint32) []entry {
	next := someRule(seed)
	var all []entry
	for range count {
		all = append(all, someEntry(next))
	}
	return all
}

// wrongEntries have one field that is not right, or all.
func wrongEntries() []entry {
	all := []entry{{}, {Kind: 1}, {Kind: 2}, {Kind: 3}, {Items: sixItems()}, readyOf(3, 1), {Kind: 1, Tenant: 3, Seq: 1, Items: []item{}}}
	for _, kind := range []int64{math.MinInt64, -3, -2, -1, 0, 4, 5, 1<<32 + 1, 1<<32 + 2, math.MaxInt64} {
		all = append(all, entry{Kind: kind, Tenant: 3, Seq: 1}, entry{Kind: kind, Tenant: 3, Seq: 1, Items: sixItems()})
	}
	for _, b := range wrongBatches() {
		all = append(all, readyOf(b.Tenant, b.Seq, b.Items...))
	}
	for _, kind := range []int64{2, 3} {
		for _, tenant := range wrongTenants() {
			all = append(all, entry{Kind: kind, Tenant: tenant, Seq: 1})
		}
		for _, seq := range wrongIds() {
			all = append(all, entry{Kind: kind, Tenant: 3, Seq: seq})
		}
		for count := 1; count <= 6; count++ {
			all = append(all, entry{Kind: kind, Tenant: 3, Seq: 1, Items: sixItems()[:count]})
		}
		all = append(all, entry{Kind: kind, Tenant: 3, Seq: 1, Items: []item{{}}}, entry{Kind: kind, Tenant: 3, Seq: 1, Items: manyItems(7)})
	}
	return all
}

func TestEntryKinds(t *testing.T) {
	if impl.EnReady != 1 || impl.EnDone != 2 || impl.EnOff != 3 {
		t.Fatal(impl.EnReady, impl.EnDone, impl.EnOff)
	}
}

func TestEntryOkOfRightOnes(t *testing.T) {
	for _, e := range append(edgeEntries(), someEntries(500, 180)...) {
		if !isEntry(e) || !impl.EntryOk(e) {
			t.Fatalf("%v is not right", e)
		}
	}
}

func TestWrongEntries(t *testing.T) {
	for _, e := range wrongEntries() {
		if isEntry(e) || impl.EntryOk(e) || impl.ShowEntry(e) != "" {
			t.Fatalf("%v is right, or shown: %q", e, impl.ShowEntry(e))
		}
	}
}

// Lines of entries that can't be, with all else as it is shown.
func TestLinesOfWrongEntriesAreNone(t *testing.T) {
	for _, e := range wrongEntries() {
		if rest := restOf(e); len(rest) < 10000 {
			checkNoLine(t, lineOf(rest))
		}
	}
}

func TestShowEntryNamed(t *testing.T) {
	for _, x := range []struct {
		e    entry
		want string
	}{
		{readyOf(2, 3, setOfItem(5, spot{X: 8}, "ab"), cutOf(6)), "694869 1 2 3 1 5 8 0 2 6162 2 6 0 0 0 -\n"},
		{doneOf(1, 1), "68121 2 1 1\n"},
		{doneOf(99, 1), "870870 2 99 1\n"},
		{offOf(99, greatestId), "476380 3 99 100000\n"},
		{offOf(1, greatestId), "251112 3 1 100000\n"},
		{readyOf(1, 1, cutOf(1)), "240325 1 1 1 2 1 0 0 0 -\n"},
		{readyOf(99, greatestId, setOfItem(greatestId, spot{X: 255, Y: 255}, strings.Repeat("x", 20))), "969778 1 99 100000 1 100000 255 255 20 7878787878787878787878787878787878787878\n"},
		{readyOf(7, 9, setOfItem(4, spot{Y: 255}, "\x00\n \xff")), "575769 1 7 9 1 4 0 255 4 000a20ff\n"},
		{readyOf(7, 9, setOfItem(4, spot{X: 255}, "")), "605308 1 7 9 1 4 255 0 0 -\n"},
		{readyOf(50, 77, setOfItem(9, spot{X: 255, Y: 255}, "\n"), cutOf(greatestId), setOfItem(1, spot{}, ""), setOfItem(10, spot{X: 255}, "\x00"), cutOf(2), setOfItem(greatestId-1, spot{Y: 255}, "\xff")),
			"182182 1 50 77 1 9 255 255 1 0a 2 100000 0 0 0 - 1 1 0 0 0 - 1 10 255 0 1 00 2 2 0 0 0 - 1 99999 0 255 1 ff\n"},
		{readyOf(7, 9), ""},
		{entry{Kind: 2, Tenant: 7, Seq: 9, Items: []item{cutOf(1)}}, ""},
		{entry{Kind: 4, Tenant: 7, Seq: 9}, ""},
		{doneOf(100, 9), ""},
		{offOf(7, greatestId+1), ""},
	} {
		if got := impl.ShowEntry(x.e); got != x.want {
			t.Errorf("ShowEntry(%v) = %q, not %q", x.e, got, x.want)
		}
		if x.want != "" {
			checkEntries(t, x.want, []entry{x.e}, int64(len(x.want)))
		}
	}
}

// What ShowEntry makes is told again, with all its bytes, by itself and behind
// others.
func TestEntriesOfWhatIsShown(t *testing.T) {
	other := readyOf(4, 8, sixItems()...)
	for _, e := range append(edgeEntries(), someEntries(500, 181)...) {
		line := impl.ShowEntry(e)
		if line != lineOf(restOf(e)) {
			t.Fatalf("ShowEntry(%v) = %q, not %q", e, line, lineOf(restOf(e)))
		}
		if strings.Index(line, "\n") != len(line)-1 {
			t.Fatalf("ShowEntry(%v) = %q has more than one end, or none", e, line)
		}
		checkEntries(t, line, []entry{e}, int64(len(line)))
		checkEntries(t, line+line, []entry{e, e}, int64(2*len(line)))
		ahead := impl.ShowEntry(other)
		checkEntries(t, ahead+line+ahead, []entry{other, e, other}, int64(2*len(ahead)+len(line)))
		checkEntries(t, line[:len(line)-1], nil, 0)
		checkAsRead(t, ahead+line+ahead)
	}
}

// Unlike Entries have unlike lines.
func TestShowEntryTellsApart(t *testing.T) {
	lines := map[string]entry{}
	for _, e := range append(edgeEntries(), someEntries(2000, 182)...) {
		line := impl.ShowEntry(e)
		if had, is := lines[line]; is && !alikeEntries(had, e) {
			t.Fatalf("%v and %v are both %q", had, e, line)
		}
		lines[line] = e
	}
}

func TestCheckNamed(t *testing.T) {
	for _, x := range []struct {
		s    string
		want int64
	}{
		{"", 13}, {"a", 786}, {" ", 721}, {"\x00", 689}, {"\n", 699}, {"\xff", 944}, {"ab", 41756}, {"ba", 41808}, {"2 1 1", 68121},
		{strings.Repeat("\x00", 20), 491456}, {strings.Repeat("\xff", 20), 891331}, {allBytes(), 187104},
		{strings.Repeat("\x00", 100000), 967464}, {strings.Repeat("\xff", 100000), 623837},
	} {
		if got := impl.Check(x.s); got != x.want {
			t.Errorf("Check(%.40q) = %d, not %d", x.s, got, x.want)
		}
	}
}

func TestCheckIsByItsRule(t *testing.T) {
	next := someRule(183)
	texts := slices.Concat(shortTexts(), longTexts(), tooLongTexts()[:4])
	for range 500 {
		texts = append(texts, someText(next(300), next))
	}
	for _, s := range texts {
		if got := impl.Check(s); got != checkOf(s) || got < 0 || got >= 999983 {
			t.Fatalf("Check(%q) = %d, not %d", s, got, checkOf(s))
		}
		for _, b := range []byte{0, 10, 32, 255} {
			if got := impl.Check(s + string([]byte{b})); got != (53*impl.Check(s)+int64(b))%999983 {
				t.Fatalf("Check(%q and %d) = %d", s, b, got)
			}
		}
	}
}

// The promise: a disk that is cut anywhere has its first Entries.
func TestDiskThatIsCut(t *testing.T) {
	for _, list := range [][]entry{
		{doneOf(1, 1)}, {readyOf(99, greatestId, fullest()...)}, {readyOf(7, 9, setOfItem(4, spot{}, "\n\n"))},
		{readyOf(2, 3, sixItems()...), doneOf(2, 3), offOf(2, 4)}, {doneOf(1, 1), doneOf(1, 1), doneOf(1, 1)}, someEntries(25, 184), edgeEntries()[:20],
	} {
		whole := disk(list)
		count, taken := 0, 0
		for cut := range len(whole) + 1 {
			if cut > 0 && whole[cut-1] == '\n' {
				count, taken = count+1, cut
			}
			checkEntries(t, whole[:cut], list[:count], int64(taken))
		}
		if count != len(list) {
			t.Fatalf("%d lines of %d", count, len(list))
		}
	}
}

// One that writes on behind a line that was cut has lost what it writes, but
// for where a line ends.
func TestDiskThatIsCutAndGoesOn(t *testing.T) {
	list := []entry{readyOf(2, 3, setOfItem(5, spot{X: 8}, "ab"), cutOf(6)), doneOf(2, 3), readyOf(99, 7, sixItems()...)}
	whole, more := disk(list), disk([]entry{offOf(50, 60), doneOf(2, 3)})
	count, taken := 0, 0
	for cut := range len(whole) + 1 {
		if cut > 0 && whole[cut-1] == '\n' {
			count, taken = count+1, cut
		}
		if taken == cut {
			checkEntries(t, whole[:cut]+more, slices.Concat(list[:count], []entry{offOf(50, 60), doneOf(2, 3)}), int64(cut+len(more)))
			continue
		}
		checkEntries(t, whole[:cut]+more, list[:count], int64(taken))
		checkAsRead(t, whole[:cut]+"\n"+more)
	}
}

func TestEmptyDisk(t *testing.T) {
	for _, text := range []string{"", "\n", " ", " \n", "\n\n", "\x00", "\x00\n", "-\n", "13\n", "13 \n", "13  \n", "0\n", "\xff\n", "\r\n"} {
		checkEntries(t, text, nil, 0)
		checkNoLine(t, text+"\n")
	}
	checkEntries(t, "", nil, 0)
}

func TestDiskOfManyLines(t *testing.T) {
	list := someEntries(3000, 185)
	whole := disk(list)
	checkEntries(t, whole, list, int64(len(whole)))
	checkEntries(t, whole+"1", list, int64(len(whole)))
	checkEntries(t, whole+"\n"+whole, list, int64(len(whole)))
	checkEntries(t, whole[:len(whole)-1], list[:2999], int64(len(whole)-len(lineOf(restOf(list[2999])))))
	checkEntries(t, whole[1:], nil, 0)
}

// changedLines are some Entries of which the bytes are changed.
func changedLines() []entry {
	return []entry{doneOf(1, 1), offOf(99, greatestId), readyOf(2, 3, setOfItem(5, spot{X: 8}, "ab"), cutOf(6)), readyOf(7, 9, setOfItem(4, spot{Y: 255}, "\x00\n \xff"))}
}

// Any byte that is changed, to any other.
func TestAnyByteChanged(t *testing.T) {
	list := changedLines()
	whole := disk(list)
	count, from := 0, 0
	for at := range len(whole) {
		for b := range 256 {
			if byte(b) != whole[at] {
				checkEntries(t, whole[:at]+string([]byte{byte(b)})+whole[at+1:], list[:count], int64(from))
			}
		}
		if whole[at] == '\n' {
			count, from = count+1, at+1
		}
	}
}

// Any byte that is gone, and any that is put in: what is left may be a line only
// where it is as it was.
func TestAnyByteGoneOrPutIn(t *testing.T) {
	list := changedLines()
	whole := disk(list)
	for at := range len(whole) {
		checkAsRead(t, whole[:at]+whole[at+1:])
		checkAsRead(t, whole[:at]+whole[at:at+1]+whole[at:])
		for _, b := range []byte("\x00\n\r\t 0123456789+-_abcdefABCDEFx\x80\xff") {
			checkAsRead(t, whole[:at]+string([]byte{b})+whole[at:])
		}
	}
}

// Any byte of the rest that is changed, gone or put in, with the Check made
// right for it: it is a line only where it is the form of an Entry.
func TestAnyByteChangedUnderARightCheck(t *testing.T) {
	lines, none := 0, 0
	check := func(rest string) {
		line := lineOf(rest)
		if _, is := entryFrom(line); is {
			lines++
		} else {
			none++
		}
		checkAsRead(t, line+lineOf("2 1 1"))
	}
	for _, e := range append(changedLines(), readyOf(99, 10, setOfItem(10, spot{X: 10, Y: 100}, "Jz"), setOfItem(11, spot{}, ""), cutOf(1))) {
		rest := restOf(e)
		for at := range len(rest) {
			check(rest[:at] + rest[at+1:])
			for b := range 256 {
				check(rest[:at] + string([]byte{byte(b)}) + rest[at+1:])
				check(rest[:at] + string([]byte{byte(b)}) + rest[at:])
			}
		}
		for b := range 256 {
			check(rest + string([]byte{byte(b)}))
		}
	}
	if lines < 500 || none < 5000 {
		t.Fatalf("%d lines, %d none: the rule tells too little", lines, none)
	}
}

// Any word that is gone, doubled, or another one, with the Check made right.
func TestAnyWordChangedUnderARightCheck(t *testing.T) {
	others := []string{"", "0", "1", "2", "3", "4", "-", "--", "-0", "-1", "+1", "00", "01", "007", "1.", "1e1", "0x1", "1_0", "a", "0a", "0A", "ff", "fF", "g0", "6", "616", "6162", "61 62", "255", "256", "99", "100", "100000", "100001",
		"999999999", "1000000000", "4294967297", "9223372036854775807", "9223372036854775808", "18446744073709551617", strings.Repeat("9", 100), strings.Repeat("0", 30) + "1", "\uff11", "\u0661", "1\r", "\t1", "1\x00", "\xff", strings.Repeat("61", 20), strings.Repeat("61", 21), strings.Repeat("6", 39)}
	for _, e := range append(changedLines(), readyOf(99, 10, sixItems()...)) {
		words := strings.Split(restOf(e), " ")
		for at := range words {
			for count := range 3 {
				for _, other := range others {
					checkAsRead(t, lineOf(strings.Join(slices.Concat(words[:at], slices.Repeat([]string{other}, count), words[at+1:]), " ")))
				}
			}
			checkAsRead(t, lineOf(strings.Join(words[:at], " ")))
			checkAsRead(t, lineOf(strings.Join(words[at:], " ")))
			for from := range at {
				checkAsRead(t, lineOf(strings.Join(slices.Concat(words[:at], words[from:]), " ")))
			}
		}
	}
}

// Rests that ShowEntry never makes, each with the Check that is right for it.
func TestNamedWrongLines(t *testing.T) {
	for _, rest := range []string{
		"", "2", "2 1", "2 1 1 ", " 2 1 1", "2  1 1", "2 1  1", "2\t1 1", "2 1 1\t", "2 1 1\r", "2 1 1\x00", "2 1 1 1", "2 1 1 -",
		"02 1 1", "2 01 1", "2 1 01", "+2 1 1", "2 +1 1", "2 1 +1", "-2 1 1", "2 -1 1", "2 1 -1", "2 1 -", " 1 1", "2  1", "2 1 ", "a 1 1", "2 b 1", "2 1 c",
		"0 1 1", "4 1 1", "10 1 1", "2 0 1", "2 100 1", "2 1 0", "2 1 100001", "3 0 1", "3 100 1", "3 1 0", "3 1 100001", "2 -0 1", "2 1 1000000000", "2 1 18446744073709551617",
		"1 2 3", "1 2 3 ", "1 0 3 2 6 0 0 0 -", "1 100 3 2 6 0 0 0 -", "1 2 0 2 6 0 0 0 -", "1 2 100001 2 6 0 0 0 -", "2 2 3 2 6 0 0 0 -", "3 2 3 1 6 0 0 0 -",
		"1 2 3 2 6 0 0 0", "1 2 3 2 6 0 0 -", "1 2 3 2 6 0 0 0 ", "1 2 3 2 6 0 0 0 --", "1 2 3 2 6 0 0 0 - ", "1 2 3 2 6 0 0 0  -", "1 2 3 2 6 0 0 00 -", "1 2 3 2 6 0 0 -0 -", "1 2 3 2 6 0 0 1 -", "1 2 3 2 6 0 0 0 00",
		"1 2 3 2 6 1 0 0 -", "1 2 3 2 6 0 1 0 -", "1 2 3 2 6 0 0 1 61", "1 2 3 2 0 0 0 0 -", "1 2 3 2 100001 0 0 0 -", "1 2 3 0 6 0 0 0 -", "1 2 3 3 6 0 0 0 -", "1 2 3 2 6 0 0 0 - 2", "1 2 3 2 6 0 0 0 - 2 6 0 0 0 -", "1 2 3 2 6 0 0 0 - 1 6 0 0 0 -",
		"1 2 3 1 5 256 0 0 -", "1 2 3 1 5 0 256 0 -", "1 2 3 1 5 -1 0 0 -", "1 2 3 1 5 08 0 0 -", "1 2 3 01 5 8 0 0 -", "1 2 3 1 05 8 0 0 -", "1 2 3 1 5 8 00 0 -",
		"1 2 3 1 5 8 0 2 616", "1 2 3 1 5 8 0 1 6162", "1 2 3 1 5 8 0 3 6162", "1 2 3 1 5 8 0 02 6162", "1 2 3 1 5 8 0 2 61626", "1 2 3 1 5 8 0 1 6", "1 2 3 1 5 8 0 1 a", "1 2 3 1 5 8 0 2 61 62", "1 2 3 1 5 8 0 0 6162", "1 2 3 1 5 8 0 2 -", "1 2 3 1 5 8 0 2 ab", "1 2 3 1 5 8 0 4 6162", "1 2 3 1 5 8 0 -2 6162", "1 2 3 1 5 8 0 +2 6162",
		"1 2 3 1 5 8 0 2 6A62", "1 2 3 1 5 8 0 2 AB6C", "1 2 3 1 5 8 0 2 aB6c", "1 2 3 1 5 8 0 2 6g62", "1 2 3 1 5 8 0 2 +162", "1 2 3 1 5 8 0 2 -162", "1 2 3 1 5 8 0 2 0x61", "1 2 3 1 5 8 0 2 6_62", "1 2 3 1 5 8 0 1 -1",
		"1 2 3 1 5 8 0 21 " + strings.Repeat("61", 21), "1 2 3 1 5 8 0 20 " + strings.Repeat("61", 21), "1 2 3 1 5 8 0 19 " + strings.Repeat("61", 20), "1 2 3 1 5 8 0 20 " + strings.Repeat("6", 39),
		"1 2 3" + strings.Repeat(" 2 6 0 0 0 -", 7), "1 2 3 2 1 0 0 0 - 2 2 0 0 0 - 2 3 0 0 0 - 2 4 0 0 0 - 2 5 0 0 0 - 2 6 0 0 0 - 2 7 0 0 0 -",
	} {
		checkNoLine(t, lineOf(rest))
	}
	for _, rest := range []string{"2 1 1", "1 2 3 2 6 0 0 0 -", "1 2 3 1 5 8 0 2 6162", "1 2 3 1 5 8 0 2 6a62", "1 2 3 1 5 8 0 20 " + strings.Repeat("61", 20), "1 2 3 2 1 0 0 0 - 2 2 0 0 0 - 2 3 0 0 0 - 2 4 0 0 0 - 2 5 0 0 0 - 2 6 0 0 0 -"} {
		if got, n := impl.Entries(lineOf(rest)); len(got) != 1 || n != int64(len(lineOf(rest))) {
			t.Fatalf("Entries(%.400q) = %#v, %d", lineOf(rest), got, n)
		}
	}
}

// Checks that are not as ShowEntry writes them, of rests that are.
func TestWrongChecks(t *testing.T) {
	for _, e := range append(changedLines(), readyOf(7, 9, setOfItem(4, spot{X: 255}, ""))) {
		rest := restOf(e)
		right := checkOf(rest)
		own := fmt.Sprint(right)
		for _, check := range []string{
			"", " ", "-", "0", "13", "0" + own, "00" + own, "+" + own, "-" + own, " " + own, own + " ", "\t" + own, own + "\t", own + "0", own + " " + own, own + ".", "0x" + strconv.FormatInt(right, 16), strconv.FormatInt(right, 16), own[1:], own[:len(own)-1],
			fmt.Sprint(right + 1), fmt.Sprint(right - 1), fmt.Sprint(right + 999983), fmt.Sprint(right - 999983), fmt.Sprint(right + 999983*1000), fmt.Sprint(right + 999983*10000), fmt.Sprint(right + 999983*1000000000000),
			fmt.Sprintf("%09d", right), fmt.Sprintf("%010d", right), fmt.Sprintf("%030d", right), strings.Repeat("9", 9), strings.Repeat("9", 10), strings.Repeat("9", 400), fmt.Sprintf("%d", uint64(right)+1<<63), "18446744073709551616",
			fmt.Sprint(checkOf(rest + "\n")), fmt.Sprint(checkOf(" " + rest)), fmt.Sprint(checkOf(own + " " + rest)), fmt.Sprint(checkOf(rest[:len(rest)-1])),
		} {
			checkNoLine(t, check+" "+rest+"\n")
		}
		checkNoLine(t, rest+"\n")
		checkNoLine(t, own+rest+"\n")
		checkNoLine(t, own+"  "+rest+"\n")
		checkNoLine(t, own+" "+rest+" \n")
		checkNoLine(t, own+" "+rest+"\r\n")
		checkNoLine(t, " "+own+" "+rest+"\n")
		checkNoLine(t, "\n"+own+" "+rest+"\n")
		checkNoLine(t, own+"\n"+rest+"\n")
		checkNoLine(t, own+" "+rest+"\x00")
		checkNoLine(t, own+" "+rest+" ")
	}
}

// A noughts-ahead Check of fewer than six digits can't hide in a field of six.
func TestChecksOfFewDigits(t *testing.T) {
	short := 0
	for seq := int64(1); seq <= 20000; seq++ {
		rest := restOf(doneOf(1, seq))
		own := fmt.Sprint(checkOf(rest))
		if len(own) < 6 {
			short++
			checkEntries(t, own+" "+rest+"\n", []entry{doneOf(1, seq)}, int64(len(own)+len(rest)+2))
			checkNoLine(t, strings.Repeat("0", 6-len(own))+own+" "+rest+"\n")
		}
	}
	if short < 100 {
		t.Fatalf("only %d are short", short)
	}
}

// Disks by a fixed rule: lines, pieces of lines, and bytes of any kind.
func TestDisksOfAnyBytes(t *testing.T) {
	next := someRule(186)
	told := 0
	for range 4000 {
		var text string
		for range next(8) {
			line := lineOf(restOf(someEntry(next)))
			switch next(12) {
			case 0:
				line = line[:next(int64(len(line)))]
			case 1:
				line = line[next(int64(len(line))):]
			case 2:
				line = someText(next(40), next)
			case 3:
				line = lineOf(strings.Repeat("1 ", int(next(12))) + "2")
			}
			text += line
		}
		checkAsRead(t, text)
		got, _ := impl.Entries(text)
		told += len(got)
	}
	if told < 4000 {
		t.Fatalf("only %d Entries were told", told)
	}
}

func TestAllShortDisks(t *testing.T) {
	for _, s := range shortTexts() {
		for _, other := range shortTexts() {
			checkEntries(t, s+other, nil, 0)
		}
	}
}

// A line of any length is read to its end, or given up.
func TestVeryLongLines(t *testing.T) {
	many := strings.Repeat(" 2 6 0 0 0 -", 100000)
	head := "1 2 3"
	for _, text := range []string{
		strings.Repeat("1", 1000000), strings.Repeat(" ", 1000000), strings.Repeat("\n", 1000000), strings.Repeat("1 ", 500000), strings.Repeat("\x00", 1000000),
		head + many, fmt.Sprint(impl.Check(head+many), " ", head+many), "1 1 2 3 1 5 8 0 1000000 " + strings.Repeat("61", 1000000),
	} {
		checkEntries(t, text, nil, 0)
		checkEntries(t, text+"\n", nil, 0)
		checkEntries(t, lineOf("2 1 1")+text+"\n"+lineOf("2 1 1"), []entry{doneOf(1, 1)}, 12)
	}
}

func TestJournalArgumentsStay(t *testing.T) {
	for _, e := range slices.Concat(edgeEntries(), wrongEntries()) {
		was := batch{Tenant: e.Tenant, Seq: e.Seq, Items: e.Items}
		given := roomyBatch(was)
		one := entry{Kind: e.Kind, Tenant: e.Tenant, Seq: e.Seq, Items: given.Items}
		is, line := impl.EntryOk(one), impl.ShowEntry(one)
		told, _ := impl.Entries(line)
		for _, x := range told {
			wipe(x.Items)
		}
		wipe(told)
		if !isSameBatch(given, was) {
			t.Fatalf("%v was changed, or the room behind it", e)
		}
		wipe(one.Items)
		if is != isEntry(e) || is && line != lineOf(restOf(e)) {
			t.Fatalf("%q shares its memory with %v", line, e)
		}
	}
}

// What is written into one list of an answer, or into the room behind it, is in
// no other one.
func TestEntriesShareNoMemory(t *testing.T) {
	list := append(someEntries(40, 187), edgeEntries()[:80]...)
	whole := disk(list)
	other, _ := impl.Entries(whole)
	for at := range list {
		got, _ := impl.Entries(whole)
		wipe(got[at].Items)
		got[at] = list[at]
		if !slices.EqualFunc(got, list, alikeEntries) {
			t.Fatalf("the Items of number %d are those of another", at)
		}
		wipe(got)
	}
	if !slices.EqualFunc(other, list, alikeEntries) {
		t.Fatal("two answers share their memory")
	}
}

// A text over bytes that are changed later tells whether an answer still looks
// at them.
func TestJournalKeepsNoText(t *testing.T) {
	list := append(someEntries(40, 188), edgeEntries()[:80]...)
	bytes := []byte(disk(list))
	got, _ := impl.Entries(unsafe.String(&bytes[0], len(bytes)))
	clear(bytes)
	if !slices.EqualFunc(got, list, alikeEntries) {
		t.Fatal("Entries are told in the memory of the disk")
	}
	text := []byte("some text")
	line := impl.ShowEntry(readyOf(3, 4, setOfItem(5, spot{}, unsafe.String(&text[0], len(text)))))
	clear(text)
	if line != lineOf(restOf(readyOf(3, 4, setOfItem(5, spot{}, "some text")))) {
		t.Fatalf("%q is in the memory of the Text", line)
	}
}

// What was asked ahead of it, or is asked beside it, leaves nothing behind.
func TestJournalHangsOnItsArgumentsAlone(t *testing.T) {
	list := someEntries(200, 189)
	var all sync.WaitGroup
	for worker := range 8 {
		all.Go(func() {
			for i := range list {
				from := (i * (2*worker + 1)) % len(list)
				some := list[from:min(from+5, len(list))]
				whole := disk(some)
				impl.Entries(whole[:len(whole)/2] + "x")
				got, n := impl.Entries(whole)
				if n != int64(len(whole)) || !slices.EqualFunc(got, some, alikeEntries) {
					t.Errorf("Entries(%.400q) = %#v, %d", whole, got, n)
				}
			}
		})
	}
	all.Wait()
}

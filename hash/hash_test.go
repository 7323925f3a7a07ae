package hash_test

import (
	"fmt"
	"hash/fnv"
	"math"
	"math/big"
	"strings"
	"testing"

	"beaconmere/api"
	"beaconmere/hash"
	"beaconmere/plain"
	"beaconmere/store"
)

const most = 1<<32 - 1

var text12 = strings.Repeat("z", api.MaxText)

var text13 = strings.Repeat("z", api.MaxText+1)

var wrongNumbers = []int{-1, -most, most + 1, most + 2, 1 << 33, math.MinInt, math.MaxInt}

// has makes an entry with a text.
func has(key, version, asOf int, text string) api.Entry {
	return api.Entry{Key: key, Version: version, AsOf: asOf, Text: text}
}

// gone makes an entry of a key that is Gone.
func gone(key, version, asOf int) api.Entry {
	return api.Entry{Key: key, Version: version, AsOf: asOf, Gone: true}
}

// byRule works a number out by the promise's words, with numbers that have no bound.
func byRule(s string) int {
	n, modulus := big.NewInt(2166136261), big.NewInt(1<<32)
	for i := range len(s) {
		n.Xor(n, big.NewInt(int64(s[i])))
		n.Mul(n, big.NewInt(16777619))
		n.Mod(n, modulus)
	}
	return int(n.Int64())
}

// tells checks an answer of any of the calls, and that it is a number from 0 to 2^32 - 1.
func tells(t *testing.T, call string, n int, err error, wantN int, want api.Errno) {
	t.Helper()
	if n != wantN || plain.Told(err) != want {
		t.Errorf("%s: got %d, %v, want %d, %v", call, n, err, wantN, want)
	}
	if n < 0 || n > most {
		t.Errorf("%s: %d is not from 0 to 2^32 - 1", call, n)
	}
}

func text(t *testing.T, s string, wantN int, want api.Errno) {
	t.Helper()
	n, err := hash.Text(s)
	tells(t, fmt.Sprintf("Text(%.100q)", s), n, err, wantN, want)
}

func ofEntry(t *testing.T, e api.Entry, wantN int, want api.Errno) {
	t.Helper()
	n, err := hash.Entry(e)
	tells(t, fmt.Sprintf("Entry(%+v)", e), n, err, wantN, want)
}

func two(t *testing.T, a, b, wantN int, want api.Errno) {
	t.Helper()
	n, err := hash.Two(a, b)
	tells(t, fmt.Sprintf("Two(%d, %d)", a, b), n, err, wantN, want)
}

func TestTextsThatAreKnown(t *testing.T) {
	text(t, "", 2166136261, api.OK)
	text(t, "a", 3826002220, api.OK)
	text(t, "b", 3876335077, api.OK)
	text(t, "abc", 440920331, api.OK)
	text(t, "zz", 1466432373, api.OK)
	text(t, "foobar", 3214735720, api.OK)
	text(t, "\xe5\x00\xff", 2130744589, api.OK)
	text(t, text12, 2789956197, api.OK)
}

func TestEachTextOfOneByte(t *testing.T) {
	for c := range 256 {
		s := string([]byte{byte(c)})
		text(t, s, byRule(s), api.OK)
	}
}

func TestTextsOfEachLength(t *testing.T) {
	for _, c := range []byte{0, 1, '/', '0', 'a', 127, 128, 200, 255} {
		for n := range 61 {
			s := strings.Repeat(string([]byte{c}), n)
			text(t, s, byRule(s), api.OK)
		}
	}
}

func TestTextsAreTakenByteByByte(t *testing.T) {
	for _, s := range []string{"\u00e4", "\u20ac", "\U0001f600", "a\x80b", "\xff\xfe", "\xed\xa0\x80", "\x00", "\x00\x00", "\x80\x00"} {
		text(t, s, byRule(s), api.OK)
	}
}

func TestOrderOfBytesCounts(t *testing.T) {
	for _, pair := range [][2]string{{"ab", "ba"}, {"a", "a\x00"}, {"", "\x00"}, {"aab", "aba"}} {
		a, _ := hash.Text(pair[0])
		b, _ := hash.Text(pair[1])
		if a == b {
			t.Errorf("Text of %q and of %q: got %d for both", pair[0], pair[1], a)
		}
	}
}

func TestTextThatIsTooLong(t *testing.T) {
	for _, n := range []int{61, 62, 64, 120, 255, 256, 316, 1 << 20} {
		text(t, strings.Repeat("z", n), 0, api.ErrFull)
	}
	text(t, strings.Repeat("\x00", 61), 0, api.ErrFull)
	text(t, strings.Repeat("\u00e4", 31), 0, api.ErrFull)
	text(t, strings.Repeat("\u00e4", 30), byRule(strings.Repeat("\u00e4", 30)), api.OK)
}

func TestTextsThatOthersKnow(t *testing.T) {
	s := ""
	for i := range 60 {
		s += string([]byte{byte(i*37 + 11)})
		h := fnv.New32a()
		h.Write([]byte(s))
		text(t, s, int(h.Sum32()), api.OK)
	}
}

func TestEntriesThatAreKnown(t *testing.T) {
	ofEntry(t, has(7, 254, 255, ""), 1503585174, api.OK)
	ofEntry(t, has(0, 16, 18, "a"), 790704004, api.OK)
	ofEntry(t, has(4, 3, 5, "abc"), 2444708129, api.OK)
	ofEntry(t, gone(3, 3, 6), 2178435989, api.OK)
	ofEntry(t, gone(7, 2, 5), 124687768, api.OK)
}

func TestEntryIsWrittenAndThenNumbered(t *testing.T) {
	for _, w := range []struct {
		e api.Entry
		s string
	}{
		{api.Entry{}, "0/0/0/"},
		{gone(0, 0, 0), "0/0/1/"},
		{gone(7, 1000, 1000), "7/1000/1/"},
		{gone(2, 10, 900), "2/10/1/"},
		{has(7, 1000, 1000, text12), "7/1000/0/" + text12},
		{has(3, 5, 9, "abc"), "3/5/0/abc"},
		{has(3, 5, 9, "/"), "3/5/0//"},
		{has(3, 5, 9, "1/"), "3/5/0/1/"},
		{has(3, 5, 9, "0"), "3/5/0/0"},
		{has(1, 11, 11, ""), "1/11/0/"},
		{has(1, 1, 11, "1"), "1/1/0/1"},
		{has(6, 99, 100, "\x00\xff\x80"), "6/99/0/\x00\xff\x80"},
	} {
		ofEntry(t, w.e, byRule(w.s), api.OK)
		text(t, w.s, byRule(w.s), api.OK)
	}
}

func TestEntryOfEachKeyAndVersion(t *testing.T) {
	for key := range api.Keys {
		for version := range api.MaxSeq + 1 {
			ofEntry(t, has(key, version, api.MaxSeq, "a"), byRule(fmt.Sprintf("%d/%d/0/a", key, version)), api.OK)
			ofEntry(t, gone(key, version, version), byRule(fmt.Sprintf("%d/%d/1/", key, version)), api.OK)
		}
	}
}

func TestAsOfDoesNotCount(t *testing.T) {
	wantHas, wantGone := byRule("3/5/0/abc"), byRule("3/5/1/")
	for asOf := 5; asOf <= api.MaxSeq; asOf++ {
		ofEntry(t, has(3, 5, asOf, "abc"), wantHas, api.OK)
		ofEntry(t, gone(3, 5, asOf), wantGone, api.OK)
	}
}

func TestEachOtherFieldCounts(t *testing.T) {
	seen := map[int]api.Entry{}
	for _, e := range []api.Entry{
		has(3, 5, 9, ""), gone(3, 5, 9), has(2, 5, 9, ""), has(3, 6, 9, ""), has(3, 5, 9, "a"),
		has(3, 5, 9, "b"), has(3, 5, 9, "\x00"), has(3, 5, 9, "/"), has(5, 3, 9, ""),
	} {
		n, err := hash.Entry(e)
		if err != nil {
			t.Fatal(err)
		}
		if other, is := seen[n]; is {
			t.Errorf("Entry of %+v and of %+v: got %d for both", e, other, n)
		}
		seen[n] = e
	}
}

func TestEntryThatIsWrong(t *testing.T) {
	for _, w := range []struct {
		e    api.Entry
		want api.Errno
	}{
		{has(-1, 1, 2, "a"), api.ErrRange},
		{has(api.Keys, 1, 2, "a"), api.ErrRange},
		{has(math.MinInt, 1, 2, "a"), api.ErrRange},
		{has(math.MaxInt, 1, 2, "a"), api.ErrRange},
		{has(0, -1, 2, "a"), api.ErrRange},
		{has(0, 1001, 1001, "a"), api.ErrRange},
		{has(0, 2, 1, "a"), api.ErrRange},
		{has(0, 1000, 1001, "a"), api.ErrRange},
		{gone(1, 965, -1), api.ErrRange},
		{has(0, 1, 2, text13), api.ErrFull},
		{has(0, 1, 2, strings.Repeat("z", 61)), api.ErrFull},
		{api.Entry{Version: 1, AsOf: 2, Gone: true, Text: "a"}, api.ErrShape},
		{api.Entry{Key: -1, Version: 1, AsOf: 2, Gone: true, Text: text13}, api.ErrRange},
		{api.Entry{Version: 1, AsOf: 2, Gone: true, Text: text13}, api.ErrFull},
	} {
		ofEntry(t, w.e, 0, w.want)
	}
}

func TestWhatStoresTellHasOneNumberWhileItIsSo(t *testing.T) {
	s := store.New()
	s.Put(3, "a")
	s.Put(4, "b")
	s.Put(5, "c")
	s.Delete(3)
	for seq, want := range []string{"3/0/1/", "3/1/0/a", "3/1/0/a", "3/1/0/a", "3/4/1/"} {
		e, err := s.At(3, seq)
		if err != nil {
			t.Fatal(err)
		}
		ofEntry(t, e, byRule(want), api.OK)
	}
}

func TestTwoThatAreKnown(t *testing.T) {
	two(t, 2901091127, 2576131406, 3048892489, api.OK)
	two(t, 1369495851, 255, 2237125267, api.OK)
	two(t, 1708484128, 0, 1615846075, api.OK)
}

func TestTwoAreWrittenAndThenNumbered(t *testing.T) {
	edges := []int{0, 1, 9, 10, 255, 256, 1000, 1<<31 - 1, 1 << 31, most - 1, most}
	for _, a := range edges {
		for _, b := range edges {
			s := fmt.Sprintf("%d/%d", a, b)
			two(t, a, b, byRule(s), api.OK)
			text(t, s, byRule(s), api.OK)
		}
	}
}

func TestOrderOfTwoCounts(t *testing.T) {
	for _, w := range [][2][2]int{{{1, 2}, {2, 1}}, {{0, most}, {most, 0}}, {{1, 12}, {11, 2}}, {{0, 0}, {0, 1}}} {
		a, _ := hash.Two(w[0][0], w[0][1])
		b, _ := hash.Two(w[1][0], w[1][1])
		if a == b {
			t.Errorf("Two of %v and of %v: got %d for both", w[0], w[1], a)
		}
	}
}

func TestTwoOfWhichOneIsWrong(t *testing.T) {
	for _, n := range wrongNumbers {
		for _, other := range append([]int{0, 1, most}, wrongNumbers...) {
			two(t, n, other, 0, api.ErrRange)
			two(t, other, n, 0, api.ErrRange)
		}
	}
}

func TestTwoTakesWhatIsTold(t *testing.T) {
	n, err := hash.Text("")
	for i := range 1000 {
		e, bad := hash.Entry(has(i%api.Keys, i, api.MaxSeq, "a"))
		if err != nil || bad != nil {
			t.Fatal(err, bad)
		}
		want := byRule(fmt.Sprintf("%d/%d", n, e))
		two(t, n, e, want, api.OK)
		n, err = hash.Two(n, e)
	}
}

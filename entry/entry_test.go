package entry_test

import (
	"math"
	"strings"
	"testing"

	"beaconmere/api"
	"beaconmere/entry"
	"beaconmere/plain"
	"beaconmere/store"
)

var text12 = strings.Repeat("z", api.MaxText)

var text13 = strings.Repeat("z", api.MaxText+1)

// has makes an entry with a text.
func has(key, version, asOf int, text string) api.Entry {
	return api.Entry{Key: key, Version: version, AsOf: asOf, Text: text}
}

// gone makes an entry of a key that is Gone.
func gone(key, version, asOf int) api.Entry {
	return api.Entry{Key: key, Version: version, AsOf: asOf, Gone: true}
}

func checks(t *testing.T, e api.Entry, want api.Errno) {
	t.Helper()
	if err := entry.Check(e); plain.Told(err) != want {
		t.Errorf("Check(%+v): got %v, want %v", e, err, want)
	}
}

func joins(t *testing.T, a, b, wantE api.Entry, want api.Errno) {
	t.Helper()
	if e, err := entry.Join(a, b); e != wantE || plain.Told(err) != want {
		t.Errorf("Join(%+v, %+v): got %+v, %v, want %+v, %v", a, b, e, err, wantE, want)
	}
}

// joinsEitherWay checks a Join of which it does not count who comes first.
func joinsEitherWay(t *testing.T, a, b, wantE api.Entry, want api.Errno) {
	t.Helper()
	joins(t, a, b, wantE, want)
	joins(t, b, a, wantE, want)
}

func isTrue(t *testing.T, e api.Entry, seq int, wantIs bool, want api.Errno) {
	t.Helper()
	if is, err := entry.True(e, seq); is != wantIs || plain.Told(err) != want {
		t.Errorf("True(%+v, %d): got %v, %v, want %v, %v", e, seq, is, err, wantIs, want)
	}
}

// right are entries with nothing wrong, the edges among them.
var right = []api.Entry{
	{},
	gone(0, 0, 0),
	gone(7, 0, 1000),
	has(0, 0, 0, "a"),
	has(7, 1000, 1000, "a"),
	has(3, 0, 1000, text12),
	has(3, 5, 5, ""),
	has(3, 5, 9, "\x00\xff\x80"),
	gone(3, 5, 9),
}

// wrong are entries with their faults; where several apply, the one that is told.
var wrong = []struct {
	e    api.Entry
	want api.Errno
}{
	{has(-1, 1, 2, "a"), api.ErrRange},
	{has(8, 1, 2, "a"), api.ErrRange},
	{has(math.MinInt, 1, 2, "a"), api.ErrRange},
	{has(math.MaxInt, 1, 2, "a"), api.ErrRange},
	{has(0, -1, 2, "a"), api.ErrRange},
	{has(0, -1, -1, "a"), api.ErrRange},
	{has(0, 1001, 1001, "a"), api.ErrRange},
	{has(0, 1001, 1000, "a"), api.ErrRange},
	{has(0, math.MinInt, 1, "a"), api.ErrRange},
	{has(0, math.MaxInt, math.MaxInt, "a"), api.ErrRange},
	{has(0, 2, 1, "a"), api.ErrRange},
	{has(0, 0, -1, "a"), api.ErrRange},
	{has(0, 1000, 999, "a"), api.ErrRange},
	{has(0, 1000, 1001, "a"), api.ErrRange},
	{has(0, 1, math.MinInt, "a"), api.ErrRange},
	{has(0, 1, math.MaxInt, "a"), api.ErrRange},
	{has(0, 1, 2, text13), api.ErrFull},
	{has(0, 1, 2, strings.Repeat("z", 100_000)), api.ErrFull},
	{has(0, 1, 2, strings.Repeat("\u00e4", 7)), api.ErrFull},
	{api.Entry{Version: 1, AsOf: 2, Gone: true, Text: "a"}, api.ErrShape},
	{api.Entry{Version: 1, AsOf: 2, Gone: true, Text: "\x00"}, api.ErrShape},
	{api.Entry{Version: 1, AsOf: 2, Gone: true, Text: text12}, api.ErrShape},
	{api.Entry{Key: -1, Version: 1, AsOf: 2, Gone: true, Text: text13}, api.ErrRange},
	{api.Entry{Version: -1, AsOf: 2, Gone: true, Text: text13}, api.ErrRange},
	{api.Entry{Version: 2, AsOf: 1, Gone: true, Text: text13}, api.ErrRange},
	{api.Entry{Key: 8, Version: 1, AsOf: 2, Gone: true, Text: "a"}, api.ErrRange},
	{api.Entry{Version: 1, AsOf: 2, Gone: true, Text: text13}, api.ErrFull},
}

func TestNothingIsWrong(t *testing.T) {
	for _, e := range right {
		checks(t, e, api.OK)
		joins(t, e, e, e, api.OK)
		isTrue(t, e, e.Version, true, api.OK)
		isTrue(t, e, e.AsOf, true, api.OK)
	}
}

func TestWhatIsWrong(t *testing.T) {
	for _, w := range wrong {
		checks(t, w.e, w.want)
		isTrue(t, w.e, 1, false, w.want)
		joins(t, w.e, has(0, 1, 2, "a"), api.Entry{}, w.want)
		joins(t, has(0, 1, 2, "a"), w.e, api.Entry{}, w.want)
	}
}

func TestWhatStoresTellIsRight(t *testing.T) {
	s := store.New()
	s.Put(3, "a")
	s.Put(4, text12)
	s.Delete(3)
	for key := range api.Keys {
		for seq := range s.Seq() + 1 {
			e, err := s.At(key, seq)
			if err != nil {
				t.Fatal(err)
			}
			checks(t, e, api.OK)
			isTrue(t, e, seq, true, api.OK)
		}
	}
}

func TestJoinOfOneVersion(t *testing.T) {
	joinsEitherWay(t, has(3, 5, 7, "a"), has(3, 5, 9, "a"), has(3, 5, 9, "a"), api.OK)
	joinsEitherWay(t, has(3, 5, 5, "a"), has(3, 5, 6, "a"), has(3, 5, 6, "a"), api.OK)
	joinsEitherWay(t, has(3, 5, 5, ""), has(3, 5, 1000, ""), has(3, 5, 1000, ""), api.OK)
	joinsEitherWay(t, gone(3, 5, 7), gone(3, 5, 9), gone(3, 5, 9), api.OK)
	joinsEitherWay(t, gone(3, 0, 0), gone(3, 0, 1), gone(3, 0, 1), api.OK)
}

func TestJoinOfOneVersionThatSaysAnother(t *testing.T) {
	joinsEitherWay(t, has(3, 5, 7, "a"), has(3, 5, 9, "b"), api.Entry{}, api.ErrClash)
	joinsEitherWay(t, has(3, 5, 7, "a"), has(3, 5, 7, "b"), api.Entry{}, api.ErrClash)
	joinsEitherWay(t, has(3, 5, 7, "a"), has(3, 5, 7, ""), api.Entry{}, api.ErrClash)
	joinsEitherWay(t, has(3, 5, 7, "a"), gone(3, 5, 9), api.Entry{}, api.ErrClash)
	joinsEitherWay(t, has(3, 5, 7, ""), gone(3, 5, 7), api.Entry{}, api.ErrClash)
	joinsEitherWay(t, has(3, 5, 9, ""), gone(3, 5, 7), api.Entry{}, api.ErrClash)
}

func TestJoinOfTwoVersions(t *testing.T) {
	joinsEitherWay(t, has(3, 1, 2, "a"), has(3, 5, 9, "b"), has(3, 5, 9, "b"), api.OK)
	joinsEitherWay(t, has(3, 1, 4, "a"), has(3, 5, 5, "a"), has(3, 5, 5, "a"), api.OK)
	joinsEitherWay(t, has(3, 1, 4, "a"), gone(3, 5, 9), gone(3, 5, 9), api.OK)
	joinsEitherWay(t, gone(3, 1, 4), gone(3, 5, 9), gone(3, 5, 9), api.OK)
	joinsEitherWay(t, gone(3, 0, 0), has(3, 1, 1, ""), has(3, 1, 1, ""), api.OK)
	joinsEitherWay(t, gone(3, 0, 999), has(3, 1000, 1000, "a"), has(3, 1000, 1000, "a"), api.OK)
}

func TestJoinOfTwoVersionsThatWereAtOnce(t *testing.T) {
	joinsEitherWay(t, has(3, 1, 5, "a"), has(3, 5, 9, "b"), api.Entry{}, api.ErrClash)
	joinsEitherWay(t, has(3, 1, 5, "a"), has(3, 5, 9, "a"), api.Entry{}, api.ErrClash)
	joinsEitherWay(t, has(3, 1, 20, "a"), has(3, 5, 9, "b"), api.Entry{}, api.ErrClash)
	joinsEitherWay(t, has(3, 1, 1000, "a"), has(3, 1000, 1000, "b"), api.Entry{}, api.ErrClash)
	joinsEitherWay(t, gone(3, 0, 1), has(3, 1, 1, "b"), api.Entry{}, api.ErrClash)
	joinsEitherWay(t, gone(3, 4, 5), gone(3, 5, 5), api.Entry{}, api.ErrClash)
}

func TestJoinOfTwoKeys(t *testing.T) {
	joinsEitherWay(t, has(3, 1, 2, "a"), has(4, 1, 2, "a"), api.Entry{}, api.ErrShape)
	joinsEitherWay(t, has(0, 1, 2, "a"), has(7, 5, 9, "b"), api.Entry{}, api.ErrShape)
}

func TestWhichFaultOfAJoinIsToldFirst(t *testing.T) {
	full, shape := has(3, 1, 2, text13), api.Entry{Key: 3, Version: 1, AsOf: 2, Gone: true, Text: "a"}
	joins(t, full, shape, api.Entry{}, api.ErrFull)
	joins(t, shape, full, api.Entry{}, api.ErrShape)
	joins(t, shape, has(-1, 1, 2, "a"), api.Entry{}, api.ErrShape)
	joinsEitherWay(t, has(4, 1, 2, "a"), full, api.Entry{}, api.ErrFull)
	joinsEitherWay(t, has(3, 1, 5, "a"), has(4, 1, 5, "b"), api.Entry{}, api.ErrShape)
	joinsEitherWay(t, has(3, 1, 5, "a"), has(4, 5, 5, "b"), api.Entry{}, api.ErrShape)
	joinsEitherWay(t, has(3, 1, 5, "a"), has(3, 1, 5, text13), api.Entry{}, api.ErrFull)
}

func TestTrueFromVersionToAsOf(t *testing.T) {
	for _, e := range []api.Entry{has(3, 5, 9, "a"), gone(3, 5, 9)} {
		for _, seq := range []int{5, 7, 9} {
			isTrue(t, e, seq, true, api.OK)
		}
		for _, seq := range []int{0, 4, 10, api.MaxSeq} {
			isTrue(t, e, seq, false, api.OK)
		}
	}
	isTrue(t, gone(0, 0, 0), 0, true, api.OK)
	isTrue(t, gone(0, 0, 0), 1, false, api.OK)
	isTrue(t, has(7, 1000, 1000, "a"), 999, false, api.OK)
	isTrue(t, has(7, 1000, 1000, "a"), 1000, true, api.OK)
}

func TestTrueAtNoSuchNumber(t *testing.T) {
	for _, seq := range []int{-1, api.MaxSeq + 1, math.MinInt, math.MaxInt} {
		isTrue(t, has(3, 0, 1000, "a"), seq, false, api.ErrRange)
		isTrue(t, has(3, 0, 1000, text13), seq, false, api.ErrFull)
		isTrue(t, api.Entry{Gone: true, Text: "a"}, seq, false, api.ErrShape)
	}
}

// known is what a store told of a key behind each of its numbers.
func known(t *testing.T) []api.Entry {
	t.Helper()
	s := store.New()
	s.Put(2, "a")
	s.Put(1, "other")
	s.Delete(2)
	s.Put(2, "a")
	s.Put(1, "other")
	var l []api.Entry
	for seq := range s.Seq() + 1 {
		e, err := s.At(2, seq)
		if err != nil {
			t.Fatal(err)
		}
		l = append(l, e)
	}
	return l
}

// TestWhatIsKnownByTwo holds the Join of what one store told at two numbers against what it told at the later one.
func TestWhatIsKnownByTwo(t *testing.T) {
	l := known(t)
	for i, a := range l {
		for j, b := range l {
			joins(t, a, b, l[max(i, j)], api.OK)
		}
	}
}

// small are all entries of key 0 with small numbers that have nothing wrong, whether a store tells them or not.
func small() []api.Entry {
	var l []api.Entry
	for version := range 4 {
		for asOf := version; asOf < 5; asOf++ {
			l = append(l, has(0, version, asOf, ""), has(0, version, asOf, "a"), gone(0, version, asOf))
		}
	}
	return l
}

func TestJoinGoesEitherWayRoundAndTwice(t *testing.T) {
	for _, a := range small() {
		for _, b := range small() {
			e, err := entry.Join(a, b)
			joins(t, b, a, e, plain.Told(err))
			if err == nil {
				joinsEitherWay(t, e, a, e, api.OK)
				joinsEitherWay(t, e, b, e, api.OK)
			}
		}
	}
}

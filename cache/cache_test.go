package cache_test

import (
	"math"
	"slices"
	"strings"
	"testing"

	"beaconmere/api"
	"beaconmere/cache"
	"beaconmere/plain"
	"beaconmere/store"
)

type list = []api.Entry

var wrongKeys = []int{-1, api.Keys, 256, math.MinInt, math.MaxInt}

var text12 = strings.Repeat("z", api.MaxText)

var text13 = strings.Repeat("z", api.MaxText+1)

// has makes an entry with a text.
func has(key, version, asOf int, text string) api.Entry {
	return api.Entry{Key: key, Version: version, AsOf: asOf, Text: text}
}

// gone makes an entry of a key that is Gone.
func gone(key, version, asOf int) api.Entry {
	return api.Entry{Key: key, Version: version, AsOf: asOf, Gone: true}
}

// goneWithText makes an entry with a fault that is told ErrShape.
func goneWithText(key int) api.Entry {
	return api.Entry{Key: key, Version: 1, AsOf: 2, Gone: true, Text: "a"}
}

// some is a cache with room ahead of its keys, between them and behind them.
func some() list { return list{has(2, 5, 7, "a"), gone(4, 3, 9), has(6, 1, 1, "")} }

// every is a cache with all keys.
func every() list {
	var l list
	for key := range api.Keys {
		l = append(l, has(key, key, 10+key, "a"))
	}
	return l
}

func checks(t *testing.T, l list, want api.Errno) {
	t.Helper()
	if err := cache.Check(l); plain.Told(err) != want {
		t.Errorf("Check(%+v): got %v, want %v", l, err, want)
	}
}

func adds(t *testing.T, l list, e api.Entry, wantL list, wantIs bool, want api.Errno) {
	t.Helper()
	got, is, err := cache.Add(l, e)
	if !slices.Equal(got, wantL) || is != wantIs || plain.Told(err) != want {
		t.Errorf("Add(%+v, %+v): got %+v, %v, %v, want %+v, %v, %v", l, e, got, is, err, wantL, wantIs, want)
	}
}

func gets(t *testing.T, l list, key int, wantE api.Entry, want api.Errno) {
	t.Helper()
	if e, err := cache.Get(l, key); e != wantE || plain.Told(err) != want {
		t.Errorf("Get(%+v, %d): got %+v, %v, want %+v, %v", l, key, e, err, wantE, want)
	}
}

func both(t *testing.T, a, b, wantL list, want api.Errno) {
	t.Helper()
	if l, err := cache.Both(a, b); !slices.Equal(l, wantL) || plain.Told(err) != want {
		t.Errorf("Both(%+v, %+v): got %+v, %v, want %+v, %v", a, b, l, err, wantL, want)
	}
}

// bothEitherWay checks Both caches where it does not count which one comes first.
func bothEitherWay(t *testing.T, a, b, wantL list, want api.Errno) {
	t.Helper()
	both(t, a, b, wantL, want)
	both(t, b, a, wantL, want)
}

// right are caches with nothing wrong, the edges among them.
var right = []list{
	nil,
	{},
	{{}},
	{gone(0, 0, 0)},
	{has(7, 1000, 1000, text12)},
	{has(0, 0, 0, ""), gone(7, 0, 1000)},
	{has(0, 9, 9, "a"), has(1, 1, 1, "b")},
	some(),
	every(),
}

// wrong are caches with their faults; where several apply, the one that is told.
var wrong = []struct {
	l    list
	want api.Errno
}{
	{append(every(), has(7, 1, 2, "a")), api.ErrFull},
	{append(every(), has(8, 1, 2, "a")), api.ErrFull},
	{append(list{goneWithText(0)}, every()...), api.ErrFull},
	{make(list, 9), api.ErrFull},
	{make(list, 100_000), api.ErrFull},
	{slices.Repeat(list{has(-1, 1, 2, "a")}, 9), api.ErrFull},

	{list{has(-1, 1, 2, "a")}, api.ErrRange},
	{list{has(8, 1, 2, "a")}, api.ErrRange},
	{list{has(3, 2, 1, "a")}, api.ErrRange},
	{list{has(3, 1, 1001, "a")}, api.ErrRange},
	{list{has(math.MinInt, 1, 2, "a"), has(math.MaxInt, 1, 2, "a")}, api.ErrRange},
	{list{has(3, 1, 2, text13)}, api.ErrFull},
	{list{goneWithText(3)}, api.ErrShape},
	{list{has(3, 1, 2, text13), has(4, 1, 2, "a"), has(5, 1, 2, "a")}, api.ErrFull},
	{list{has(3, 1, 2, "a"), has(4, 1, 2, text13), has(5, 1, 2, "a")}, api.ErrFull},
	{list{has(3, 1, 2, "a"), has(4, 1, 2, "a"), has(5, 1, 2, text13)}, api.ErrFull},

	{list{has(3, 1, 2, "a"), has(3, 1, 2, "a")}, api.ErrShape},
	{list{has(0, 1, 2, "a"), has(0, 1, 2, "a")}, api.ErrShape},
	{list{has(4, 1, 2, "a"), has(3, 1, 2, "a")}, api.ErrShape},
	{list{has(7, 1, 2, "a"), has(0, 1, 2, "a")}, api.ErrShape},
	{list{has(3, 1, 2, "a"), has(5, 1, 2, "a"), has(4, 1, 2, "a")}, api.ErrShape},
	{list{has(3, 1, 2, "a"), has(4, 1, 2, "a"), has(5, 1, 2, "a"), has(3, 1, 2, "a")}, api.ErrShape},
	{make(list, 8), api.ErrShape},

	// Of several entries with a fault the first one counts, and of its faults that within the entry.
	{list{has(3, 1, 2, text13), goneWithText(4), has(-1, 1, 2, "a")}, api.ErrFull},
	{list{goneWithText(3), has(4, 1, 2, text13), has(-1, 1, 2, "a")}, api.ErrShape},
	{list{has(-1, 1, 2, "a"), goneWithText(3), has(4, 1, 2, text13)}, api.ErrRange},
	{list{has(3, 1, 2, "a"), has(3, 1, 2, "a"), has(-1, 1, 2, "a")}, api.ErrShape},
	{list{has(4, 1, 2, "a"), has(3, 1, 2, "a"), has(5, 1, 2, text13)}, api.ErrShape},
	{list{has(4, 1, 2, "a"), has(3, 1, 2, text13)}, api.ErrFull},
	{list{has(4, 1, 2, "a"), has(-1, 1, 2, "a")}, api.ErrRange},
	{list{has(4, 1, 2, "a"), has(3, 2, 1, "a"), has(2, 1, 2, text13)}, api.ErrRange},
}

func TestNothingIsWrong(t *testing.T) {
	for _, l := range right {
		checks(t, l, api.OK)
		bothEitherWay(t, l, nil, l, api.OK)
		both(t, l, l, l, api.OK)
		for _, e := range l {
			gets(t, l, e.Key, e, api.OK)
			adds(t, l, e, l, false, api.OK)
		}
	}
}

func TestWhatIsWrong(t *testing.T) {
	for _, w := range wrong {
		checks(t, w.l, w.want)
		adds(t, w.l, has(3, 1, 2, "a"), nil, false, w.want)
		gets(t, w.l, 3, api.Entry{}, w.want)
		bothEitherWay(t, w.l, some(), nil, w.want)
		bothEitherWay(t, w.l, nil, nil, w.want)
	}
}

func TestAddOfAKeyThatIsNotThere(t *testing.T) {
	l := some()
	for _, e := range []api.Entry{has(0, 0, 0, "b"), has(1, 9, 12, text12), gone(1, 0, 0)} {
		adds(t, l, e, list{e, l[0], l[1], l[2]}, true, api.OK)
	}
	for _, e := range []api.Entry{has(3, 9, 12, "a"), gone(3, 0, 1000)} {
		adds(t, l, e, list{l[0], e, l[1], l[2]}, true, api.OK)
	}
	adds(t, l, has(5, 1, 1, ""), list{l[0], l[1], has(5, 1, 1, ""), l[2]}, true, api.OK)
	adds(t, l, has(7, 1000, 1000, "b"), list{l[0], l[1], l[2], has(7, 1000, 1000, "b")}, true, api.OK)
	adds(t, nil, has(3, 1, 2, "b"), list{has(3, 1, 2, "b")}, true, api.OK)
	adds(t, list{}, api.Entry{}, list{{}}, true, api.OK)
}

func TestAddOfTheLastKeyThatWasNotThere(t *testing.T) {
	for key := range api.Keys {
		without := slices.Delete(every(), key, key+1)
		adds(t, without, every()[key], every(), true, api.OK)
	}
}

func TestAddOfAKeyThatIsThere(t *testing.T) {
	with := func(e api.Entry) list {
		l := some()
		l[0] = e
		return l
	}
	known := has(2, 5, 7, "a")
	for _, e := range []api.Entry{has(2, 5, 8, "a"), has(2, 5, 1000, "a"), has(2, 8, 8, "b"), has(2, 9, 12, "a"), gone(2, 8, 8)} {
		adds(t, with(known), e, with(e), true, api.OK)
		adds(t, with(e), known, with(e), false, api.OK)
		adds(t, with(e), e, with(e), false, api.OK)
	}
	adds(t, with(known), has(2, 5, 5, "a"), with(known), false, api.OK)
	adds(t, with(known), has(2, 1, 4, "b"), with(known), false, api.OK)
	adds(t, with(known), gone(2, 0, 0), with(known), false, api.OK)
}

func TestAddInACacheWithAllKeys(t *testing.T) {
	for key := range api.Keys {
		want := every()
		want[key] = gone(key, 500, 501)
		adds(t, every(), gone(key, 500, 501), want, true, api.OK)
	}
}

func TestAddOfWhatClashes(t *testing.T) {
	for _, e := range []api.Entry{has(2, 5, 7, "b"), has(2, 5, 9, ""), gone(2, 5, 7), has(2, 7, 9, "b"), has(2, 6, 6, "a"), has(2, 1, 5, "b"), gone(2, 0, 1000)} {
		adds(t, some(), e, nil, false, api.ErrClash)
	}
	adds(t, some(), has(6, 1, 1, "b"), nil, false, api.ErrClash)
}

func TestAddOfAWrongEntry(t *testing.T) {
	for _, key := range wrongKeys {
		adds(t, some(), has(key, 1, 2, "a"), nil, false, api.ErrRange)
	}
	for _, key := range []int{2, 3} {
		adds(t, some(), has(key, 2, 1, "a"), nil, false, api.ErrRange)
		adds(t, some(), has(key, 1, 2, text13), nil, false, api.ErrFull)
		adds(t, some(), goneWithText(key), nil, false, api.ErrShape)
		adds(t, nil, goneWithText(key), nil, false, api.ErrShape)
	}
	adds(t, some(), has(2, 5, 7, text13), nil, false, api.ErrFull)
}

func TestAddTellsWhatIsWrongWithTheCacheFirst(t *testing.T) {
	adds(t, list{goneWithText(3)}, has(3, 1, 2, text13), nil, false, api.ErrShape)
	adds(t, list{has(3, 1, 2, text13)}, goneWithText(3), nil, false, api.ErrFull)
	adds(t, list{has(3, 1, 2, "a"), has(3, 1, 2, "a")}, has(3, 1, 2, "b"), nil, false, api.ErrShape)
	adds(t, make(list, 9), has(-1, 1, 2, "a"), nil, false, api.ErrFull)
}

func TestGet(t *testing.T) {
	for key := range api.Keys {
		gets(t, every(), key, every()[key], api.OK)
		gets(t, list{every()[key]}, key, every()[key], api.OK)
		gets(t, slices.Delete(every(), key, key+1), key, api.Entry{}, api.ErrNone)
		gets(t, nil, key, api.Entry{}, api.ErrNone)
	}
	for _, key := range []int{0, 1, 3, 5, 7} {
		gets(t, some(), key, api.Entry{}, api.ErrNone)
	}
	gets(t, some(), 4, gone(4, 3, 9), api.OK)
}

func TestGetOfNoSuchKey(t *testing.T) {
	for _, key := range wrongKeys {
		for _, l := range right {
			gets(t, l, key, api.Entry{}, api.ErrRange)
		}
		for _, w := range wrong {
			gets(t, w.l, key, api.Entry{}, w.want)
		}
	}
}

func TestBoth(t *testing.T) {
	a := list{has(1, 2, 3, "a"), has(4, 5, 9, "b"), gone(6, 3, 4)}
	b := list{has(0, 1, 1, ""), has(1, 4, 6, "c"), gone(3, 0, 9), has(4, 5, 7, "b"), gone(6, 3, 5), has(7, 9, 9, "z")}
	bothEitherWay(t, a, b, list{has(0, 1, 1, ""), has(1, 4, 6, "c"), gone(3, 0, 9), has(4, 5, 9, "b"), gone(6, 3, 5), has(7, 9, 9, "z")}, api.OK)
	bothEitherWay(t, every()[:3], every()[3:], every(), api.OK)
	bothEitherWay(t, every()[:5], every()[2:], every(), api.OK)
	bothEitherWay(t, list{has(0, 1, 1, "a")}, list{has(7, 1, 1, "a")}, list{has(0, 1, 1, "a"), has(7, 1, 1, "a")}, api.OK)
	both(t, nil, list{}, nil, api.OK)
}

func TestBothThatClash(t *testing.T) {
	for i, e := range some() {
		e.Text, e.Gone = "other", false
		bothEitherWay(t, some(), list{e}, nil, api.ErrClash)
		l := some()
		l[i] = e
		bothEitherWay(t, some(), l, nil, api.ErrClash)
	}
	bothEitherWay(t, some(), list{has(0, 1, 1, "a"), gone(2, 6, 6), has(7, 1, 1, "a")}, nil, api.ErrClash)
}

func TestBothTellsWhatIsWrongWithTheFirstOneFirst(t *testing.T) {
	for _, a := range wrong {
		for _, b := range wrong {
			both(t, a.l, b.l, nil, a.want)
		}
	}
	// What is wrong with the other one comes ahead of a clash with it.
	bothEitherWay(t, some(), list{has(2, 5, 7, "b"), has(3, 1, 2, text13)}, nil, api.ErrFull)
}

// roomy is a copy of a cache that has room behind it, and something in that room.
func roomy(l list) list {
	long := append(slices.Clone(l), has(7, 77, 77, "behind"), has(7, 78, 78, "behind"))
	return long[:len(l)]
}

// kept checks that a cache, and what lies behind it, are as roomy made them.
func kept(t *testing.T, got, made list) {
	t.Helper()
	want := roomy(made)
	if !slices.Equal(got[:len(made)+2], want[:len(made)+2]) {
		t.Errorf("a cache was written into: got %+v, want %+v", got[:len(made)+2], want[:len(made)+2])
	}
}

// spoil writes over an answer, and into the room behind it.
func spoil(l list) {
	for i := range l[:cap(l)] {
		l[:cap(l)][i] = has(-5, -5, -5, "spoilt")
	}
}

func TestAddWritesIntoNothing(t *testing.T) {
	for _, l := range []list{nil, {}, some(), every()[:7]} {
		for _, e := range []api.Entry{has(0, 900, 900, "b"), has(2, 900, 900, "b"), has(5, 900, 900, "b"), has(7, 900, 900, "b"), gone(2, 0, 0), has(2, 5, 7, "c")} {
			in := roomy(l)
			first, _, _ := cache.Add(in, e)
			kept(t, in, l)
			second, _, err := cache.Add(in, e)
			want := slices.Clone(second)
			spoil(first)
			kept(t, in, l)
			if err == nil && !slices.Equal(second, want) {
				t.Errorf("two answers of Add share memory")
			}
		}
	}
}

func TestBothWriteIntoNothing(t *testing.T) {
	for _, a := range []list{nil, {}, some(), every()[:7]} {
		for _, b := range []list{nil, {}, {has(0, 900, 900, "b")}, {has(2, 900, 900, "b"), has(3, 900, 900, "b"), has(7, 900, 900, "b")}, {has(1, 900, 900, "b"), has(2, 5, 7, "c")}} {
			x, y := roomy(a), roomy(b)
			first, _ := cache.Both(x, y)
			second, _ := cache.Both(x, y)
			want := slices.Clone(second)
			spoil(first)
			kept(t, x, a)
			kept(t, y, b)
			if !slices.Equal(second, want) {
				t.Errorf("two answers of Both share memory")
			}
		}
	}
}

// told makes every cache of three keys of which each one is not there, or is as a store told it at one of its numbers; beside each, these numbers (-1: not there).
func told(t *testing.T) (caches []list, when [][]int) {
	t.Helper()
	keys := []int{1, 2, 6}
	s := store.New()
	s.Put(2, "a")
	s.Put(6, "b")
	s.Delete(2)
	s.Put(6, "b")
	caches, when = []list{nil}, [][]int{nil}
	for _, key := range keys {
		var longer []list
		var longerWhen [][]int
		for i, l := range caches {
			for seq := -1; seq <= s.Seq(); seq++ {
				with := slices.Clone(l)
				if seq >= 0 {
					e, err := s.At(key, seq)
					if err != nil {
						t.Fatal(err)
					}
					with = append(with, e)
				}
				longer = append(longer, with)
				longerWhen = append(longerWhen, append(slices.Clone(when[i]), seq))
			}
		}
		caches, when = longer, longerWhen
	}
	return caches, when
}

// later takes of each key the later number.
func later(a, b []int) []int {
	l := make([]int, len(a))
	for i := range a {
		l[i] = max(a[i], b[i])
	}
	return l
}

// TestWhatIsKnownByTwo holds Both of caches that one store told against the cache that was told the later one of each key.
func TestWhatIsKnownByTwo(t *testing.T) {
	caches, when := told(t)
	index := map[[3]int]int{}
	for i, w := range when {
		index[[3]int(w)] = i
	}
	for i, a := range caches {
		for j, b := range caches {
			both(t, a, b, caches[index[[3]int(later(when[i], when[j]))]], api.OK)
		}
	}
}

// TestAddingOneByOneIsBoth holds Both against Add of each entry, and Get of each key against what is there.
func TestAddingOneByOneIsBoth(t *testing.T) {
	caches, _ := told(t)
	for _, a := range caches {
		for _, b := range caches {
			sum := a
			for _, e := range b {
				before, missing := cache.Get(sum, e.Key)
				next, is, err := cache.Add(sum, e)
				after, lost := cache.Get(next, e.Key)
				if err != nil || lost != nil {
					t.Fatalf("Add(%+v, %+v): %v, %v", sum, e, err, lost)
				}
				if is != (missing != nil || after != before) {
					t.Errorf("Add(%+v, %+v): got %v", sum, e, is)
				}
				sum = next
			}
			both(t, a, b, sum, api.OK)
		}
	}
}

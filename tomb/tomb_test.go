package tomb_test

import (
	"math"
	"slices"
	"strings"
	"testing"

	"beaconmere/api"
	"beaconmere/cache"
	"beaconmere/plain"
	"beaconmere/store"
	"beaconmere/tomb"
)

type list = []api.Entry

type shelf = [][]api.Entry

var wrongKeys = []int{-1, api.Keys, 256, math.MinInt, math.MaxInt}

var wrongMarks = []int{-1, api.MaxSeq + 1, math.MinInt, math.MaxInt}

// has makes an entry with a text.
func has(key, version, asOf int, text string) api.Entry {
	return api.Entry{Key: key, Version: version, AsOf: asOf, Text: text}
}

// gone makes an entry of a key that is Gone.
func gone(key, version, asOf int) api.Entry {
	return api.Entry{Key: key, Version: version, AsOf: asOf, Gone: true}
}

// some is a cache with room ahead of its keys, between them and behind them.
func some() list {
	return list{has(1, 5, 7, "a"), gone(2, 3, 9), gone(4, 6, 6), has(5, 1, 1, ""), gone(6, 0, 8)}
}

// every is a cache with all keys, those with odd numbers Gone.
func every() list {
	var l list
	for key := range api.Keys {
		l = append(l, api.Entry{Key: key, Version: key, AsOf: 10 + key, Gone: key%2 == 1})
	}
	return l
}

// wrong are caches with each of their faults.
var wrong = []struct {
	l    list
	want api.Errno
}{
	{append(every(), has(7, 1, 2, "a")), api.ErrFull},
	{make(list, 100_000), api.ErrFull},
	{list{has(-1, 1, 2, "a")}, api.ErrRange},
	{list{gone(3, 2, 1)}, api.ErrRange},
	{list{gone(3, 5, 7), gone(4, 1, 1001)}, api.ErrRange},
	{list{has(3, 5, 7, strings.Repeat("z", api.MaxText+1))}, api.ErrFull},
	{list{{Key: 3, Version: 5, AsOf: 7, Gone: true, Text: "a"}}, api.ErrShape},
	{list{gone(3, 5, 7), gone(3, 5, 7)}, api.ErrShape},
	{list{gone(4, 5, 7), gone(3, 5, 7)}, api.ErrShape},
}

func marks(t *testing.T, l shelf, key, wantN int, want api.Errno) {
	t.Helper()
	if n, err := tomb.Mark(l, key); n != wantN || plain.Told(err) != want {
		t.Errorf("Mark(%+v, %d): got %d, %v, want %d, %v", l, key, n, err, wantN, want)
	}
}

func sweeps(t *testing.T, l list, mark int, wantL list, wantKeys []int, want api.Errno) {
	t.Helper()
	left, keys, err := tomb.Sweep(l, mark)
	if !slices.Equal(left, wantL) || !slices.Equal(keys, wantKeys) || plain.Told(err) != want {
		t.Errorf("Sweep(%+v, %d): got %+v, %v, %v, want %+v, %v, %v", l, mark, left, keys, err, wantL, wantKeys, want)
	}
}

func safe(t *testing.T, l shelf, wantKeys []int, want api.Errno) {
	t.Helper()
	if keys, err := tomb.Safe(l); !slices.Equal(keys, wantKeys) || plain.Told(err) != want {
		t.Errorf("Safe(%+v): got %v, %v, want %v, %v", l, keys, err, wantKeys, want)
	}
}

// refused checks that Mark, at each key, and Safe are told the same.
func refused(t *testing.T, l shelf, want api.Errno) {
	t.Helper()
	for _, key := range append([]int{0, 3, 7}, wrongKeys...) {
		marks(t, l, key, 0, want)
	}
	safe(t, l, nil, want)
}

func TestMarkIsTheLeastAsOf(t *testing.T) {
	for _, l := range []shelf{
		{{gone(3, 2, 4)}, {gone(3, 2, 9)}, {gone(3, 2, 6)}},
		{{gone(3, 2, 9)}, {gone(3, 2, 4)}, {gone(3, 2, 6)}},
		{{gone(3, 2, 9)}, {gone(3, 2, 6)}, {gone(3, 2, 4)}},
		{{gone(3, 2, 4)}, {has(3, 5, 9, "a")}, {gone(3, 5, 5)}},
		{{has(3, 4, 4, "a")}, {has(3, 0, 9, "b")}, {gone(3, 3, 7)}},
		{{has(3, 4, 4, "a"), gone(4, 1, 2)}, {gone(2, 0, 1), gone(3, 4, 5)}, {gone(0, 0, 0), gone(3, 4, 1000), gone(7, 1, 1)}},
	} {
		marks(t, l, 3, 4, api.OK)
	}
	marks(t, shelf{{gone(0, 0, 1000)}, {gone(0, 1000, 1000)}}, 0, 1000, api.OK)
	marks(t, shelf{{gone(7, 0, 1000)}, {gone(7, 0, 999)}}, 7, 999, api.OK)
	marks(t, shelf{{gone(7, 0, 0)}, {gone(7, 0, 999)}}, 7, 0, api.OK)
}

func TestMarkOfEachKey(t *testing.T) {
	b := every()
	for key := range b {
		b[key].AsOf = 17 - key
	}
	for key := range api.Keys {
		marks(t, shelf{every(), b}, key, min(10+key, 17-key), api.OK)
	}
}

func TestMarkWhereOneHasNone(t *testing.T) {
	full := list{gone(2, 1, 5), gone(3, 1, 5), gone(4, 1, 5)}
	for _, lack := range []list{nil, {}, {gone(2, 1, 5)}, {gone(4, 1, 5)}, {gone(2, 1, 5), gone(4, 1, 5)}} {
		marks(t, shelf{lack}, 3, 0, api.OK)
		for i := range api.Nodes {
			l := slices.Repeat(shelf{full}, api.Nodes)
			marks(t, l, 3, 5, api.OK)
			l[i] = lack
			marks(t, l, 3, 0, api.OK)
		}
	}
}

func TestMarkOfOneCacheAlone(t *testing.T) {
	for key := range api.Keys {
		marks(t, shelf{every()}, key, 10+key, api.OK)
		marks(t, shelf{nil}, key, 0, api.OK)
	}
	for _, e := range some() {
		marks(t, shelf{some()}, e.Key, e.AsOf, api.OK)
	}
	for _, key := range []int{0, 3, 7} {
		marks(t, shelf{some()}, key, 0, api.OK)
	}
	marks(t, shelf{{gone(3, 1000, 1000)}}, 3, 1000, api.OK)
	marks(t, shelf{{has(3, 0, 0, "")}}, 3, 0, api.OK)
}

func TestNoCache(t *testing.T) {
	refused(t, nil, api.ErrNone)
	refused(t, shelf{}, api.ErrNone)
}

func TestMoreThanNodes(t *testing.T) {
	for _, n := range []int{api.Nodes + 1, api.Nodes + 2, 100_000} {
		refused(t, make(shelf, n), api.ErrFull)
		refused(t, slices.Repeat(shelf{every()}, n), api.ErrFull)
		// That there are too many comes ahead of what is wrong with one of them.
		for _, w := range wrong {
			l := make(shelf, n)
			l[0], l[n-1] = w.l, w.l
			refused(t, l, api.ErrFull)
		}
	}
	most := slices.Repeat(shelf{every()}, api.Nodes)
	marks(t, most, 3, 13, api.OK)
	safe(t, most, []int{1, 3, 5, 7}, api.OK)
	marks(t, make(shelf, api.Nodes), 3, 0, api.OK)
	safe(t, make(shelf, api.Nodes), nil, api.OK)
}

func TestAWrongCache(t *testing.T) {
	for _, w := range wrong {
		refused(t, shelf{w.l}, w.want)
		sweeps(t, w.l, 5, nil, nil, w.want)
		for i := range api.Nodes {
			for _, other := range []list{nil, some(), every()} {
				l := slices.Repeat(shelf{other}, api.Nodes)
				l[i] = w.l
				refused(t, l, w.want)
			}
		}
	}
}

func TestTheFirstWrongCacheCounts(t *testing.T) {
	for _, a := range wrong {
		for _, b := range wrong {
			refused(t, shelf{a.l, b.l}, a.want)
			refused(t, shelf{some(), a.l, nil, b.l}, a.want)
		}
	}
}

func TestMarkOfNoSuchKey(t *testing.T) {
	for _, key := range wrongKeys {
		for _, l := range []shelf{{nil}, {some()}, {every(), every()}, {nil, every()}, slices.Repeat(shelf{every()}, api.Nodes)} {
			marks(t, l, key, 0, api.ErrRange)
		}
	}
}

func TestSweepByTheVersion(t *testing.T) {
	one := has(1, 5, 7, "a")
	five := has(5, 1, 1, "")
	for mark, want := range []struct {
		left list
		keys []int
	}{
		0: {list{one, gone(2, 3, 9), gone(4, 6, 6), five}, []int{6}},
		1: {list{one, gone(2, 3, 9), gone(4, 6, 6), five}, []int{6}},
		2: {list{one, gone(2, 3, 9), gone(4, 6, 6), five}, []int{6}},
		3: {list{one, gone(4, 6, 6), five}, []int{2, 6}},
		4: {list{one, gone(4, 6, 6), five}, []int{2, 6}},
		5: {list{one, gone(4, 6, 6), five}, []int{2, 6}},
		6: {list{one, five}, []int{2, 4, 6}},
		7: {list{one, five}, []int{2, 4, 6}},
	} {
		sweeps(t, some(), mark, want.left, want.keys, api.OK)
	}
	sweeps(t, some(), api.MaxSeq, list{one, five}, []int{2, 4, 6}, api.OK)
}

func TestSweepBelowAtAndAboveAVersion(t *testing.T) {
	for _, version := range []int{1, 2, 500, 999, 1000} {
		for key := range api.Keys {
			for _, asOf := range []int{version, api.MaxSeq} {
				l := list{gone(key, version, asOf)}
				sweeps(t, l, version-1, l, nil, api.OK)
				sweeps(t, l, version, nil, []int{key}, api.OK)
				sweeps(t, l, min(version+1, api.MaxSeq), nil, []int{key}, api.OK)
			}
		}
	}
	sweeps(t, list{gone(3, 0, 1000)}, 0, nil, []int{3}, api.OK)
	sweeps(t, list{gone(3, 1, 1000)}, 0, list{gone(3, 1, 1000)}, nil, api.OK)
}

func TestSweepLeavesWhatIsNotGone(t *testing.T) {
	l := list{has(0, 0, 0, ""), has(3, 2, 9, "a"), has(7, 1000, 1000, "b")}
	for _, mark := range []int{0, 1, 2, 3, 999, 1000} {
		sweeps(t, l, mark, l, nil, api.OK)
		sweeps(t, nil, mark, nil, nil, api.OK)
		sweeps(t, list{}, mark, nil, nil, api.OK)
	}
}

func TestSweepOfAllKeys(t *testing.T) {
	var l list
	for key := range api.Keys {
		l = append(l, gone(key, key, 20))
	}
	for mark := range api.Keys {
		sweeps(t, l, mark, l[mark+1:], []int{0, 1, 2, 3, 4, 5, 6, 7}[:mark+1], api.OK)
	}
}

func TestSweepAgain(t *testing.T) {
	for _, mark := range []int{0, 3, 6, 1000} {
		for _, l := range []list{nil, some(), every()} {
			left, _, err := tomb.Sweep(l, mark)
			if err != nil {
				t.Fatal(err)
			}
			sweeps(t, left, mark, left, nil, api.OK)
		}
	}
}

func TestSweepAtNoSuchMark(t *testing.T) {
	for _, mark := range wrongMarks {
		for _, l := range []list{nil, some(), every(), {gone(3, 0, 0)}} {
			sweeps(t, l, mark, nil, nil, api.ErrRange)
		}
		// A wrong cache comes ahead of a wrong mark.
		for _, w := range wrong {
			sweeps(t, w.l, mark, nil, nil, w.want)
		}
	}
}

func TestSafeWhereAllKnow(t *testing.T) {
	safe(t, shelf{{gone(3, 2, 4)}, {gone(3, 2, 4)}}, []int{3}, api.OK)
	safe(t, shelf{{gone(3, 2, 4)}, {gone(3, 2, 9)}, {gone(3, 2, 2)}}, []int{3}, api.OK)
	safe(t, shelf{{gone(0, 0, 0), gone(7, 1000, 1000)}, {gone(0, 0, 1000), gone(7, 1000, 1000)}}, []int{0, 7}, api.OK)
	safe(t, shelf{
		{gone(0, 1, 5), gone(3, 2, 4), gone(6, 0, 4)},
		{gone(1, 1, 5), gone(3, 2, 5), gone(5, 2, 5), gone(6, 0, 8)},
		{gone(3, 2, 6), gone(4, 0, 0), gone(6, 0, 0), gone(7, 7, 7)},
	}, []int{3, 6}, api.OK)
}

func TestSafeOfOneCacheAlone(t *testing.T) {
	safe(t, shelf{some()}, []int{2, 4, 6}, api.OK)
	safe(t, shelf{every()}, []int{1, 3, 5, 7}, api.OK)
	safe(t, shelf{{gone(0, 0, 0)}}, []int{0}, api.OK)
	safe(t, shelf{{has(0, 0, 0, "")}}, nil, api.OK)
	safe(t, shelf{nil}, nil, api.OK)
	safe(t, shelf{{}}, nil, api.OK)
}

func TestSafeWhereOneDoesNotKnow(t *testing.T) {
	knows := list{gone(2, 1, 5), gone(3, 2, 5), gone(4, 1, 5)}
	for _, other := range []list{
		{gone(2, 1, 5), gone(4, 1, 5)},
		{gone(2, 1, 5), gone(3, 1, 5), gone(4, 1, 5)},
		{gone(2, 1, 5), gone(3, 3, 5), gone(4, 1, 5)},
		{gone(2, 1, 5), has(3, 2, 5, ""), gone(4, 1, 5)},
		{gone(2, 1, 5), has(3, 1, 1, "a"), gone(4, 1, 5)},
		{gone(2, 1, 5), has(3, 6, 6, "a"), gone(4, 1, 5)},
	} {
		for i := range api.Nodes {
			l := slices.Repeat(shelf{knows}, api.Nodes)
			safe(t, l, []int{2, 3, 4}, api.OK)
			l[i] = other
			safe(t, l, []int{2, 4}, api.OK)
			l[i] = nil
			safe(t, l, nil, api.OK)
		}
	}
	// All have the same Version, and none has it Gone.
	safe(t, shelf{{has(3, 2, 5, "")}, {has(3, 2, 5, "")}}, nil, api.OK)
}

// TestAllThatThreeMayHave plays every way in which three caches may have a key, and holds Mark and Safe against it.
func TestAllThatThreeMayHave(t *testing.T) {
	ways := []list{nil, {gone(3, 0, 0)}, {gone(3, 0, 4)}, {gone(3, 2, 4)}, {gone(3, 2, 5)}, {has(3, 2, 4, "")}, {has(3, 6, 9, "a")}}
	asOf := []int{0, 0, 4, 4, 5, 4, 9}
	// What is Gone from the same Version on has the same number above 0.
	goneAs := []int{0, 1, 1, 2, 2, 0, 0}
	for i := range ways {
		for j := range ways {
			for k := range ways {
				l := shelf{ways[i], ways[j], ways[k]}
				marks(t, l, 3, min(asOf[i], asOf[j], asOf[k]), api.OK)
				var keys []int
				if goneAs[i] > 0 && goneAs[i] == goneAs[j] && goneAs[j] == goneAs[k] {
					keys = []int{3}
				}
				safe(t, l, keys, api.OK)
			}
		}
	}
}

// behind is what lies in the room behind a list.
func behind() api.Entry { return gone(3, 0, 0) }

// roomy is a copy of a cache that has room behind it, and something in that room that would count if it were read.
func roomy(l list) list {
	return append(slices.Clone(l), behind(), behind())[:len(l)]
}

// roomyShelf is a copy of caches, each with room behind it, and with caches in the room behind them all.
func roomyShelf(l shelf) shelf {
	var out shelf
	for _, own := range l {
		out = append(out, roomy(own))
	}
	return append(out, nil, some())[:len(l)]
}

// kept checks that a cache, and what lies behind it, are as roomy made them.
func kept(t *testing.T, got, made list) {
	t.Helper()
	want := append(slices.Clone(made), behind(), behind())
	if !slices.Equal(got[:len(want)], want) {
		t.Errorf("a cache was written into: got %+v, want %+v", got[:len(want)], want)
	}
}

// keptShelf checks that caches, and what lies behind them, are as roomyShelf made them.
func keptShelf(t *testing.T, got, made shelf) {
	t.Helper()
	for i, own := range made {
		kept(t, got[i], own)
	}
	if room := got[len(made) : len(made)+2]; room[0] != nil || !slices.Equal(room[1], some()) {
		t.Errorf("what lies behind the caches was written into: got %+v", room)
	}
}

// spoil writes over an answer, and into the room behind it.
func spoil[T any](l []T, with T) {
	for i := range l[:cap(l)] {
		l[:cap(l)][i] = with
	}
}

func TestSweepWritesIntoNothing(t *testing.T) {
	for _, l := range []list{nil, {gone(3, 1, 2)}, {has(3, 1, 2, "a")}, some(), every()} {
		for _, mark := range []int{-1, 0, 1, 3, 6, 1000} {
			in := roomy(l)
			left, keys, _ := tomb.Sweep(in, mark)
			kept(t, in, l)
			leftNext, keysNext, _ := tomb.Sweep(in, mark)
			wantLeft, wantKeys := slices.Clone(leftNext), slices.Clone(keysNext)
			spoil(left, has(-5, -5, -5, "spoilt"))
			spoil(keys, -5)
			kept(t, in, l)
			if !slices.Equal(leftNext, wantLeft) || !slices.Equal(keysNext, wantKeys) {
				t.Errorf("two answers of Sweep share memory")
			}
		}
	}
}

func TestMarkAndSafeWriteIntoNothing(t *testing.T) {
	for _, l := range []shelf{nil, {nil}, {some()}, {every(), every()}, {some(), every(), nil}, {every(), wrong[6].l}, slices.Repeat(shelf{every()}, api.Nodes)} {
		in := roomyShelf(l)
		for key := -1; key <= api.Keys; key++ {
			n, err := tomb.Mark(in, key)
			marks(t, l, key, n, plain.Told(err))
			keptShelf(t, in, l)
		}
		first, err := tomb.Safe(in)
		safe(t, l, first, plain.Told(err))
		second, _ := tomb.Safe(in)
		want := slices.Clone(second)
		spoil(first, -5)
		keptShelf(t, in, l)
		if !slices.Equal(second, want) {
			t.Errorf("two answers of Safe share memory")
		}
	}
}

// past is a store in which a key was there and was gone, twice, with another one's changes between.
func past(t *testing.T) *store.Store {
	t.Helper()
	s := store.New()
	done := func(_ int, err error) {
		t.Helper()
		if err != nil {
			t.Fatal(err)
		}
	}
	done(s.Put(1, "other"))
	done(s.Put(3, "a"))
	done(s.Delete(3))
	done(s.Put(1, "other"))
	done(s.Put(3, "b"))
	done(s.Delete(3))
	done(s.Delete(1))
	return s
}

// TestWhatAllKnowToBeGoneIsNotFoundAgain sweeps three caches of all the times of a store up to where all know the key: nothing of it that is older than what was swept is left with any of them.
func TestWhatAllKnowToBeGoneIsNotFoundAgain(t *testing.T) {
	s := past(t)
	at := func(seq int) list {
		e, err := s.At(3, seq)
		if err != nil {
			t.Fatal(err)
		}
		return list{e}
	}
	for i := range s.Seq() + 1 {
		for j := range s.Seq() + 1 {
			for k := range s.Seq() + 1 {
				sweptAt(t, shelf{at(i), at(j), at(k)})
			}
		}
	}
}

// sweptAt sweeps caches that have one entry each, of key 3.
func sweptAt(t *testing.T, l shelf) {
	t.Helper()
	mark, err := tomb.Mark(l, 3)
	if err != nil {
		t.Fatal(err)
	}
	var all list
	newestGone := -1
	for _, own := range l {
		left, keys, err := tomb.Sweep(own, mark)
		if err != nil {
			t.Fatal(err)
		}
		if len(keys) > 0 {
			newestGone = max(newestGone, own[0].Version)
		}
		if all, err = cache.Both(all, left); err != nil {
			t.Fatal(err)
		}
	}
	if len(all) > 0 && all[0].Version <= newestGone {
		t.Errorf("%+v, swept at %d: %+v is found again", l, mark, all[0])
	}
}

// TestSafeKeysAreSwept holds Safe against Mark and Sweep: at the mark of a key that is safe, no cache has it any more.
func TestSafeKeysAreSwept(t *testing.T) {
	l := shelf{
		{gone(0, 1, 5), gone(3, 2, 4), gone(6, 9, 9)},
		{gone(3, 2, 2), gone(5, 2, 5), gone(6, 9, 12)},
		{gone(3, 2, 6), has(5, 2, 3, "a"), gone(6, 9, 10)},
	}
	keys, err := tomb.Safe(l)
	if !slices.Equal(keys, []int{3, 6}) || err != nil {
		t.Fatalf("Safe: got %v, %v", keys, err)
	}
	for _, key := range keys {
		mark, err := tomb.Mark(l, key)
		if err != nil {
			t.Fatal(err)
		}
		for _, own := range l {
			if _, swept, err := tomb.Sweep(own, mark); !slices.Contains(swept, key) || err != nil {
				t.Errorf("Sweep(%+v, %d): got %v, %v, want %d among them", own, mark, swept, err, key)
			}
		}
	}
}

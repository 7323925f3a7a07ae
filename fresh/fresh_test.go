package fresh_test

import (
	"math"
	"slices"
	"strings"
	"testing"

	"beaconmere/api"
	"beaconmere/entry"
	"beaconmere/fresh"
	"beaconmere/plain"
	"beaconmere/store"
)

type list = []api.Entry

var wrongKeys = []int{-1, api.Keys, 256, math.MinInt, math.MaxInt}

var wrongFloors = []int{-1, api.MaxSeq + 1, math.MinInt, math.MaxInt}

// has makes an entry with a text.
func has(key, version, asOf int, text string) api.Entry {
	return api.Entry{Key: key, Version: version, AsOf: asOf, Text: text}
}

// gone makes an entry of a key that is Gone.
func gone(key, version, asOf int) api.Entry {
	return api.Entry{Key: key, Version: version, AsOf: asOf, Gone: true}
}

// some is a cache with room ahead of its keys, between them and behind them, that are not known equally long.
func some() list { return list{has(2, 5, 7, "a"), gone(4, 3, 9), has(6, 1, 1, "")} }

// every is a cache with all keys.
func every() list {
	var l list
	for key := range api.Keys {
		l = append(l, has(key, key, 10+key, "a"))
	}
	return l
}

// wrong are caches with each of their faults.
var wrong = []struct {
	l    list
	want api.Errno
}{
	{append(every(), has(7, 1, 2, "a")), api.ErrFull},
	{list{has(3, 2, 1, "a")}, api.ErrRange},
	{list{has(3, 5, 7, "a"), has(4, 1, 1001, "a")}, api.ErrRange},
	{list{has(3, 5, 7, strings.Repeat("z", api.MaxText+1))}, api.ErrFull},
	{list{{Key: 3, Version: 5, AsOf: 7, Gone: true, Text: "a"}}, api.ErrShape},
	{list{has(3, 5, 7, "a"), has(3, 5, 7, "a")}, api.ErrShape},
	{list{has(4, 5, 7, "a"), has(3, 5, 7, "a")}, api.ErrShape},
}

func gets(t *testing.T, l list, key, floor int, wantE api.Entry, want api.Errno) {
	t.Helper()
	if e, err := fresh.Get(l, key, floor); e != wantE || plain.Told(err) != want {
		t.Errorf("Get(%+v, %d, %d): got %+v, %v, want %+v, %v", l, key, floor, e, err, wantE, want)
	}
}

func stale(t *testing.T, l list, floor int, wantKeys []int, want api.Errno) {
	t.Helper()
	if keys, err := fresh.Stale(l, floor); !slices.Equal(keys, wantKeys) || plain.Told(err) != want {
		t.Errorf("Stale(%+v, %d): got %v, %v, want %v, %v", l, floor, keys, err, wantKeys, want)
	}
}

func touches(t *testing.T, l list, key, version, seq int, wantL list, want api.Errno) {
	t.Helper()
	if got, err := fresh.Touch(l, key, version, seq); !slices.Equal(got, wantL) || plain.Told(err) != want {
		t.Errorf("Touch(%+v, %d, %d, %d): got %+v, %v, want %+v, %v", l, key, version, seq, got, err, wantL, want)
	}
}

func TestGetOfWhatIsNotOlder(t *testing.T) {
	for _, e := range some() {
		for _, floor := range []int{0, e.AsOf - 1, e.AsOf} {
			gets(t, some(), e.Key, floor, e, api.OK)
		}
	}
	gets(t, list{{}}, 0, 0, api.Entry{}, api.OK)
	gets(t, list{has(7, 1000, 1000, "b")}, 7, 1000, has(7, 1000, 1000, "b"), api.OK)
	for _, e := range every() {
		gets(t, every(), e.Key, e.AsOf, e, api.OK)
	}
}

func TestGetOfWhatIsOlder(t *testing.T) {
	for _, e := range some() {
		for _, floor := range []int{e.AsOf + 1, 500, api.MaxSeq} {
			gets(t, some(), e.Key, floor, api.Entry{}, api.ErrOld)
		}
	}
	gets(t, list{{}}, 0, 1, api.Entry{}, api.ErrOld)
	gets(t, list{has(7, 999, 999, "b")}, 7, 1000, api.Entry{}, api.ErrOld)
}

func TestGetOfAKeyThatIsNotThere(t *testing.T) {
	for _, floor := range []int{0, 8, api.MaxSeq} {
		for _, key := range []int{0, 1, 3, 5, 7} {
			gets(t, some(), key, floor, api.Entry{}, api.ErrNone)
			gets(t, nil, key, floor, api.Entry{}, api.ErrNone)
		}
	}
}

func TestGetOfNoSuchKey(t *testing.T) {
	for _, key := range wrongKeys {
		for _, l := range []list{nil, some(), every()} {
			gets(t, l, key, 0, api.Entry{}, api.ErrRange)
			gets(t, l, key, 1000, api.Entry{}, api.ErrRange)
		}
	}
}

func TestTheFloorIsAskedFirst(t *testing.T) {
	for _, floor := range wrongFloors {
		for _, w := range wrong {
			gets(t, w.l, 3, floor, api.Entry{}, api.ErrRange)
			stale(t, w.l, floor, nil, api.ErrRange)
		}
		for _, l := range []list{nil, some(), every()} {
			gets(t, l, 2, floor, api.Entry{}, api.ErrRange)
			gets(t, l, 3, floor, api.Entry{}, api.ErrRange)
			gets(t, l, -1, floor, api.Entry{}, api.ErrRange)
			stale(t, l, floor, nil, api.ErrRange)
		}
	}
}

func TestAWrongCache(t *testing.T) {
	for _, w := range wrong {
		for _, floor := range []int{0, 5, api.MaxSeq} {
			gets(t, w.l, 3, floor, api.Entry{}, w.want)
			gets(t, w.l, 5, floor, api.Entry{}, w.want)
			gets(t, w.l, -1, floor, api.Entry{}, w.want)
			stale(t, w.l, floor, nil, w.want)
		}
		// A wrong cache comes ahead of a wrong key, and of all that is wrong with a word about it.
		for _, key := range []int{3, 5, -1, 8} {
			touches(t, w.l, key, 5, 9, nil, w.want)
			touches(t, w.l, key, -1, 1001, nil, w.want)
			touches(t, w.l, key, 6, 6, nil, w.want)
		}
	}
}

func TestStale(t *testing.T) {
	stale(t, some(), 0, nil, api.OK)
	stale(t, some(), 1, nil, api.OK)
	stale(t, some(), 2, []int{6}, api.OK)
	stale(t, some(), 7, []int{6}, api.OK)
	stale(t, some(), 8, []int{2, 6}, api.OK)
	stale(t, some(), 9, []int{2, 6}, api.OK)
	stale(t, some(), 10, []int{2, 4, 6}, api.OK)
	stale(t, some(), 1000, []int{2, 4, 6}, api.OK)
	stale(t, nil, 1000, nil, api.OK)
	stale(t, list{}, 0, nil, api.OK)
	stale(t, list{{}}, 0, nil, api.OK)
	stale(t, list{{}}, 1, []int{0}, api.OK)
	stale(t, list{has(7, 1000, 1000, "b")}, 1000, nil, api.OK)
	for n := range api.Keys + 1 {
		stale(t, every(), 10+n, []int{0, 1, 2, 3, 4, 5, 6, 7}[:n], api.OK)
	}
}

// TestStaleKeysAreThoseThatAreOld holds Stale against Get.
func TestStaleKeysAreThoseThatAreOld(t *testing.T) {
	for _, l := range []list{nil, some(), every()} {
		for floor := range 20 {
			var old []int
			for key := range api.Keys {
				if _, err := fresh.Get(l, key, floor); plain.Told(err) == api.ErrOld {
					old = append(old, key)
				}
			}
			stale(t, l, floor, old, api.OK)
		}
	}
}

func TestTouchOfTheSameVersion(t *testing.T) {
	for i, e := range some() {
		for _, seq := range []int{e.AsOf + 1, 500, api.MaxSeq} {
			want := some()
			want[i].AsOf = seq
			touches(t, some(), e.Key, e.Version, seq, want, api.OK)
		}
		for seq := e.Version; seq <= e.AsOf; seq++ {
			touches(t, some(), e.Key, e.Version, seq, some(), api.OK)
		}
	}
	touches(t, list{{}}, 0, 0, 0, list{{}}, api.OK)
	touches(t, list{{}}, 0, 0, 1, list{{AsOf: 1}}, api.OK)
	touches(t, list{gone(7, 0, 1000)}, 7, 0, 1000, list{gone(7, 0, 1000)}, api.OK)
	touches(t, list{has(7, 1000, 1000, "b")}, 7, 1000, 1000, list{has(7, 1000, 1000, "b")}, api.OK)
}

func TestTouchOfAGreaterVersion(t *testing.T) {
	for i, e := range some() {
		for _, version := range []int{e.AsOf + 1, e.AsOf + 2, 500, api.MaxSeq} {
			for _, seq := range []int{version, api.MaxSeq} {
				touches(t, some(), e.Key, version, seq, slices.Delete(some(), i, i+1), api.OK)
			}
		}
	}
	for key := range api.Keys {
		touches(t, every(), key, 18, 20, slices.Delete(every(), key, key+1), api.OK)
	}
	touches(t, list{{}}, 0, 1, 1, nil, api.OK)
	touches(t, list{gone(7, 0, 999)}, 7, 1000, 1000, nil, api.OK)
}

func TestTouchOfWhatClashes(t *testing.T) {
	for _, e := range some() {
		for version := range e.Version {
			for _, seq := range []int{version, e.Version, e.AsOf, e.AsOf + 1, api.MaxSeq} {
				touches(t, some(), e.Key, version, seq, nil, api.ErrClash)
			}
		}
		for version := e.Version + 1; version <= e.AsOf; version++ {
			for _, seq := range []int{version, e.AsOf, e.AsOf + 1, api.MaxSeq} {
				touches(t, some(), e.Key, version, max(version, seq), nil, api.ErrClash)
			}
		}
	}
	touches(t, list{gone(7, 0, 1000)}, 7, 1000, 1000, nil, api.ErrClash)
	touches(t, list{has(7, 1000, 1000, "b")}, 7, 999, 1000, nil, api.ErrClash)
}

func TestTouchWithNoSuchNumber(t *testing.T) {
	for _, n := range []struct{ version, seq int }{
		{-1, -1}, {-1, 0}, {-1, 9}, {-1, 1001}, {0, -1}, {math.MinInt, 9}, {math.MinInt, math.MaxInt}, {math.MinInt, math.MinInt},
		{10, 9}, {5, 4}, {1, 0}, {1001, 1000}, {math.MaxInt, 9},
		{5, 1001}, {0, 1001}, {10, 1001}, {1001, 1001}, {0, math.MaxInt}, {math.MaxInt, math.MaxInt},
	} {
		for _, e := range some() {
			touches(t, some(), e.Key, n.version, n.seq, nil, api.ErrRange)
		}
		// That there is none comes first.
		touches(t, some(), 3, n.version, n.seq, nil, api.ErrNone)
		touches(t, nil, 3, n.version, n.seq, nil, api.ErrNone)
	}
}

func TestTouchOfAKeyThatIsNotThere(t *testing.T) {
	for _, key := range []int{0, 1, 3, 5, 7} {
		touches(t, some(), key, 5, 9, nil, api.ErrNone)
		touches(t, list{}, key, 0, 0, nil, api.ErrNone)
	}
	for _, key := range wrongKeys {
		for _, l := range []list{nil, some(), every()} {
			touches(t, l, key, 5, 9, nil, api.ErrRange)
		}
	}
}

// roomy is a copy of a cache that has room behind it, and something in that room.
func roomy(l list) list {
	long := append(slices.Clone(l), has(7, 77, 77, "behind"), has(7, 78, 78, "behind"))
	return long[:len(l)]
}

// kept checks that a cache, and what lies behind it, are as roomy made them.
func kept(t *testing.T, got, made list) {
	t.Helper()
	want := roomy(made)
	if !slices.Equal(got[:len(made)+2], want[:len(made)+2]) {
		t.Errorf("a cache was written into: got %+v, want %+v", got[:len(made)+2], want[:len(made)+2])
	}
}

// spoil writes over an answer, and into the room behind it.
func spoil(l list) {
	for i := range l[:cap(l)] {
		l[:cap(l)][i] = has(-5, -5, -5, "spoilt")
	}
}

func TestTouchWritesIntoNothing(t *testing.T) {
	for _, l := range []list{{has(2, 5, 7, "a")}, some(), every()} {
		for _, n := range []struct{ version, seq int }{{l[0].Version, 1}, {5, 7}, {5, 9}, {2, 900}, {500, 900}, {0, 900}, {6, 900}} {
			in := roomy(l)
			first, _ := fresh.Touch(in, 2, n.version, n.seq)
			kept(t, in, l)
			second, _ := fresh.Touch(in, 2, n.version, n.seq)
			want := slices.Clone(second)
			spoil(first)
			kept(t, in, l)
			if !slices.Equal(second, want) {
				t.Errorf("two answers of Touch share memory")
			}
		}
	}
}

func TestTheOthersWriteIntoNothing(t *testing.T) {
	for _, l := range []list{nil, some(), every()} {
		in := roomy(l)
		fresh.Get(in, 2, 8)
		fresh.Get(in, 2, 0)
		first, _ := fresh.Stale(in, 14)
		second, _ := fresh.Stale(in, 14)
		want := slices.Clone(second)
		for i := range first {
			first[i] = -5
		}
		kept(t, in, l)
		if !slices.Equal(second, want) {
			t.Errorf("two answers of Stale share memory")
		}
	}
}

// past is a store in which a key was there, was gone and was there again, with another one's changes between.
func past() *store.Store {
	s := store.New()
	s.Put(1, "other")
	s.Put(3, "a")
	s.Put(1, "other")
	s.Delete(3)
	s.Put(3, "a")
	s.Delete(1)
	return s
}

// TestTouchByWhoKnows holds what a store says of a key against what a cache knew from it before: nothing is refused, and what is there afterwards is true up to what was said.
func TestTouchByWhoKnows(t *testing.T) {
	s := past()
	for known := range s.Seq() + 1 {
		e, _ := s.At(3, known)
		for seq := known; seq <= s.Seq(); seq++ {
			now, _ := s.At(3, seq)
			got, err := fresh.Touch(list{e}, 3, now.Version, seq)
			if err != nil {
				t.Fatalf("known at %d, said at %d: %v", known, seq, err)
			}
			if now.Version != e.Version {
				if len(got) != 0 {
					t.Errorf("known at %d, said at %d: got %+v, want none", known, seq, got)
				}
				continue
			}
			if !slices.Equal(got, list{now}) {
				t.Errorf("known at %d, said at %d: got %+v, want %+v", known, seq, got, now)
			}
			if is, err := entry.True(got[0], seq); !is || err != nil {
				t.Errorf("known at %d, said at %d: %+v is not true", known, seq, got[0])
			}
		}
	}
}

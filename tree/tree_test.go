package tree_test

import (
	"fmt"
	"hash/fnv"
	"math"
	"slices"
	"strings"
	"testing"

	"beaconmere/api"
	"beaconmere/cache"
	"beaconmere/plain"
	"beaconmere/store"
	"beaconmere/tree"
)

type list = []api.Entry

var wrongNodes = []int{0, 16, -1, -8, 17, 256, 1 << 32, 1<<32 + 1, math.MinInt, math.MaxInt}

var text12 = strings.Repeat("z", api.MaxText)

var text13 = strings.Repeat("z", api.MaxText+1)

// has makes an entry with a text.
func has(key, version, asOf int, text string) api.Entry {
	return api.Entry{Key: key, Version: version, AsOf: asOf, Text: text}
}

// gone makes an entry of a key that is Gone.
func gone(key, version, asOf int) api.Entry {
	return api.Entry{Key: key, Version: version, AsOf: asOf, Gone: true}
}

// goneWithText makes an entry with a fault that is told ErrShape.
func goneWithText(key int) api.Entry {
	return api.Entry{Key: key, Version: 1, AsOf: 2, Gone: true, Text: "a"}
}

// some is a cache with room ahead of its keys, between them and behind them.
func some() list { return list{has(2, 5, 7, "a"), gone(4, 3, 9), has(6, 1, 1, "")} }

// every is a cache with all keys.
func every() list {
	var l list
	for key := range api.Keys {
		l = append(l, has(key, key, 10+key, "a"))
	}
	return l
}

// subset is a cache with those keys of every whose bits are set.
func subset(bits int) list {
	var l list
	for _, e := range every() {
		if bits>>e.Key&1 == 1 {
			l = append(l, e)
		}
	}
	return l
}

// number works out chapter 7's number of a text by the library.
func number(s string) int {
	h := fnv.New32a()
	h.Write([]byte(s))
	return int(h.Sum32())
}

// byRule works a node's number out from it down, as the promise says it.
func byRule(l list, i int) int {
	if i < 8 {
		return number(fmt.Sprintf("%d/%d", byRule(l, 2*i), byRule(l, 2*i+1)))
	}
	for _, e := range l {
		if e.Key == i-8 {
			gone := 0
			if e.Gone {
				gone = 1
			}
			return number(fmt.Sprintf("%d/%d/%d/%s", e.Key, e.Version, gone, e.Text))
		}
	}
	return 0
}

// asks tells how many nodes are asked of caches that part in just these keys: the root, and two below each node that has one of them below it.
func asks(keys []int) int {
	above := map[int]int{}
	for _, key := range keys {
		for i := (8 + key) / 2; i > 0; i /= 2 {
			above[i]++
		}
	}
	return 1 + 2*len(above)
}

// keysOf gives the keys whose bits are set, rising.
func keysOf(bits int) []int {
	var keys []int
	for key := range api.Keys {
		if bits>>key&1 == 1 {
			keys = append(keys, key)
		}
	}
	return keys
}

func node(t *testing.T, l list, i, wantN int, want api.Errno) {
	t.Helper()
	if n, err := tree.Node(l, i); n != wantN || plain.Told(err) != want {
		t.Errorf("Node(%+v, %d): got %d, %v, want %d, %v", l, i, n, err, wantN, want)
	}
}

func diff(t *testing.T, a, b list, wantKeys []int, wantAsked int, want api.Errno) {
	t.Helper()
	keys, asked, err := tree.Diff(a, b)
	if !slices.Equal(keys, wantKeys) || asked != wantAsked || plain.Told(err) != want {
		t.Errorf("Diff(%+v, %+v): got %v, %d, %v, want %v, %d, %v", a, b, keys, asked, err, wantKeys, wantAsked, want)
	}
}

// diffEitherWay checks a Diff of which it does not count who comes first.
func diffEitherWay(t *testing.T, a, b list, wantKeys []int, wantAsked int, want api.Errno) {
	t.Helper()
	diff(t, a, b, wantKeys, wantAsked, want)
	diff(t, b, a, wantKeys, wantAsked, want)
}

// right are caches with nothing wrong, the edges among them.
var right = []list{
	nil,
	{},
	{{}},
	{gone(0, 0, 0)},
	{has(7, 1000, 1000, text12)},
	{has(0, 0, 0, ""), gone(7, 0, 1000)},
	{has(0, 9, 9, "a"), has(1, 1, 1, "b")},
	{has(3, 5, 9, "\x00\xff\x80/")},
	some(),
	every(),
}

// wrong are caches with their faults; where several apply, the one that is told.
var wrong = []struct {
	l    list
	want api.Errno
}{
	{append(every(), has(7, 1, 2, "a")), api.ErrFull},
	{append(list{goneWithText(0)}, every()...), api.ErrFull},
	{make(list, 9), api.ErrFull},
	{make(list, 100_000), api.ErrFull},
	{slices.Repeat(list{has(-1, 1, 2, "a")}, 9), api.ErrFull},

	{list{has(-1, 1, 2, "a")}, api.ErrRange},
	{list{has(8, 1, 2, "a")}, api.ErrRange},
	{list{has(math.MinInt, 1, 2, "a"), has(math.MaxInt, 1, 2, "a")}, api.ErrRange},
	{list{has(3, -1, 1, "a")}, api.ErrRange},
	{list{has(3, 2, 1, "a")}, api.ErrRange},
	{list{has(3, 1, 1001, "a")}, api.ErrRange},
	{list{has(3, 1, 2, text13)}, api.ErrFull},
	{list{goneWithText(3)}, api.ErrShape},

	{list{has(3, 1, 2, "a"), has(3, 1, 2, "a")}, api.ErrShape},
	{list{has(4, 1, 2, "a"), has(3, 1, 2, "a")}, api.ErrShape},
	{list{has(3, 1, 2, "a"), has(5, 1, 2, "a"), has(4, 1, 2, "a")}, api.ErrShape},
	{make(list, 8), api.ErrShape},

	// Of several entries with a fault the first one counts, and of its faults that within the entry.
	{list{has(3, 1, 2, text13), goneWithText(4), has(-1, 1, 2, "a")}, api.ErrFull},
	{list{has(-1, 1, 2, "a"), goneWithText(3), has(4, 1, 2, text13)}, api.ErrRange},
	{list{has(4, 1, 2, "a"), has(3, 1, 2, text13)}, api.ErrFull},
	{list{has(4, 1, 2, "a"), has(3, 1, 2, "a"), has(5, 1, 2, text13)}, api.ErrShape},
}

func TestNodesThatAreKnown(t *testing.T) {
	node(t, nil, 15, 0, api.OK)
	node(t, list{gone(3, 0, 0), gone(6, 0, 2), gone(7, 0, 0)}, 7, 2799210095, api.OK)
	node(t, list{gone(0, 0, 0), gone(5, 0, 1), gone(6, 0, 0), gone(7, 0, 1)}, 13, 3642031212, api.OK)
	node(t, list{gone(0, 0, 6), has(1, 2, 5, ""), has(2, 1, 1, "c"), gone(3, 0, 0), gone(6, 0, 0)}, 1, 4038937348, api.OK)
}

func TestNodesOfTheEmptyCache(t *testing.T) {
	pairs := number("0/0")
	fours := number(fmt.Sprintf("%d/%d", pairs, pairs))
	all := number(fmt.Sprintf("%d/%d", fours, fours))
	for _, l := range []list{nil, {}} {
		for i := 8; i < 16; i++ {
			node(t, l, i, 0, api.OK)
		}
		for i := 4; i < 8; i++ {
			node(t, l, i, pairs, api.OK)
		}
		node(t, l, 2, fours, api.OK)
		node(t, l, 3, fours, api.OK)
		node(t, l, 1, all, api.OK)
	}
}

// TestNodesOfOneEntry works out by hand those on the way from the entry's end up to the root.
func TestNodesOfOneEntry(t *testing.T) {
	l := list{has(5, 7, 9, "abc")}
	end := number("5/7/0/abc")
	pair := number(fmt.Sprintf("0/%d", end))
	four := number(fmt.Sprintf("%d/%d", pair, number("0/0")))
	emptyFour := number(fmt.Sprintf("%d/%d", number("0/0"), number("0/0")))
	node(t, l, 13, end, api.OK)
	node(t, l, 12, 0, api.OK)
	node(t, l, 6, pair, api.OK)
	node(t, l, 7, number("0/0"), api.OK)
	node(t, l, 3, four, api.OK)
	node(t, l, 2, emptyFour, api.OK)
	node(t, l, 1, number(fmt.Sprintf("%d/%d", emptyFour, four)), api.OK)
}

func TestEachNodeOfOneEntryOfEachKey(t *testing.T) {
	for key := range api.Keys {
		for _, e := range []api.Entry{has(key, 0, 0, ""), has(key, 1000, 1000, text12), gone(key, 12, 34)} {
			for i := 1; i < 16; i++ {
				node(t, list{e}, i, byRule(list{e}, i), api.OK)
			}
		}
	}
}

func TestEachNodeOfEachSubset(t *testing.T) {
	for bits := range 256 {
		l := subset(bits)
		for i := 1; i < 16; i++ {
			node(t, l, i, byRule(l, i), api.OK)
		}
	}
}

func TestEachNodeOfRightCaches(t *testing.T) {
	for _, l := range right {
		for i := 1; i < 16; i++ {
			node(t, l, i, byRule(l, i), api.OK)
		}
	}
}

func TestNoSuchNode(t *testing.T) {
	for _, i := range wrongNodes {
		for _, l := range right {
			node(t, l, i, 0, api.ErrRange)
		}
	}
}

func TestNodeOfAWrongCache(t *testing.T) {
	for _, w := range wrong {
		for i := 1; i < 16; i++ {
			node(t, w.l, i, 0, w.want)
		}
	}
}

// TestNoSuchNodeComesFirst holds a node's fault against caches whose own fault is another one.
func TestNoSuchNodeComesFirst(t *testing.T) {
	for _, i := range wrongNodes {
		for _, w := range wrong {
			node(t, w.l, i, 0, api.ErrRange)
		}
	}
}

func TestAsOfDoesNotCountInANode(t *testing.T) {
	for _, asOf := range []int{5, 6, 999, 1000} {
		for i := 1; i < 16; i++ {
			node(t, list{has(2, 5, asOf, "a")}, i, byRule(list{has(2, 5, 5, "a")}, i), api.OK)
		}
	}
}

func TestCachesThatAreAlike(t *testing.T) {
	for _, l := range right {
		diff(t, l, slices.Clone(l), nil, 1, api.OK)
		diff(t, l, l, nil, 1, api.OK)
	}
	diffEitherWay(t, nil, list{}, nil, 1, api.OK)
}

func TestCachesThatPartInOneKey(t *testing.T) {
	for key := range api.Keys {
		diffEitherWay(t, nil, list{has(key, 1, 2, "a")}, []int{key}, 7, api.OK)
		for _, e := range []api.Entry{has(key, key, 10+key, "b"), has(key, key, 10+key, ""), gone(key, key, 10+key), has(key, key+1, 10+key, "a")} {
			l := every()
			l[key] = e
			diffEitherWay(t, every(), l, []int{key}, 7, api.OK)
		}
		diffEitherWay(t, every(), slices.Delete(every(), key, key+1), []int{key}, 7, api.OK)
	}
}

func TestCachesThatPartInSomeKeys(t *testing.T) {
	with := func(keys ...int) list {
		l := every()
		for _, key := range keys {
			l[key] = gone(key, 500, 501)
		}
		return l
	}
	diffEitherWay(t, every(), with(0, 1), []int{0, 1}, 7, api.OK)
	diffEitherWay(t, every(), with(6, 7), []int{6, 7}, 7, api.OK)
	diffEitherWay(t, every(), with(1, 2), []int{1, 2}, 9, api.OK)
	diffEitherWay(t, every(), with(0, 1, 2, 3), []int{0, 1, 2, 3}, 9, api.OK)
	diffEitherWay(t, every(), with(0, 7), []int{0, 7}, 11, api.OK)
	diffEitherWay(t, every(), with(3, 4), []int{3, 4}, 11, api.OK)
	diffEitherWay(t, every(), with(2, 3, 4, 5), []int{2, 3, 4, 5}, 11, api.OK)
	diffEitherWay(t, every(), with(0, 2, 5), []int{0, 2, 5}, 13, api.OK)
	diffEitherWay(t, every(), with(1, 3, 5, 7), []int{1, 3, 5, 7}, 15, api.OK)
}

func TestCachesThatPartInAllKeys(t *testing.T) {
	var other list
	for key := range api.Keys {
		other = append(other, gone(key, 500, 501))
	}
	all := []int{0, 1, 2, 3, 4, 5, 6, 7}
	diffEitherWay(t, every(), other, all, 15, api.OK)
	diffEitherWay(t, every(), nil, all, 15, api.OK)
	diffEitherWay(t, subset(0x55), subset(0xaa), all, 15, api.OK)
}

// TestEachTwoSubsets holds the keys, their order and the number of nodes that were asked against what the caches lack of each other.
func TestEachTwoSubsets(t *testing.T) {
	for x := range 256 {
		for y := range 256 {
			keys := keysOf(x ^ y)
			diff(t, subset(x), subset(y), keys, asks(keys), api.OK)
		}
	}
}

func TestAnotherTimeAloneDoesNotPart(t *testing.T) {
	later := every()
	for i := range later {
		later[i].AsOf = 900 + i
		diffEitherWay(t, every(), later, nil, 1, api.OK)
	}
	diffEitherWay(t, list{gone(3, 5, 5)}, list{gone(3, 5, 1000)}, nil, 1, api.OK)

	// Beside a key that does part, those of another time stay out.
	later[6] = gone(6, 906, 906)
	diffEitherWay(t, every(), later, []int{6}, 7, api.OK)
}

// TestGoneIsNotTheSameAsNotThere holds an entry that is Gone from the beginning on against none.
func TestGoneIsNotTheSameAsNotThere(t *testing.T) {
	for key := range api.Keys {
		diffEitherWay(t, nil, list{gone(key, 0, 0)}, []int{key}, 7, api.OK)
		diffEitherWay(t, list{has(key, 0, 0, "")}, list{gone(key, 0, 0)}, []int{key}, 7, api.OK)
	}
}

// TestNumbersAloneAreHeldAgainstEachOther has entries that say otherwise, but whose nodes happen to be the same: there nothing below is asked, and nothing parts.
func TestNumbersAloneAreHeldAgainstEachOther(t *testing.T) {
	zero := list{has(3, 5, 9, "dsvzzpe")}
	node(t, zero, 11, 0, api.OK)
	diffEitherWay(t, zero, nil, nil, 1, api.OK)
	diffEitherWay(t, zero, list{has(2, 5, 9, "a")}, []int{2}, 7, api.OK)

	diffEitherWay(t, list{has(3, 5, 9, "vaczf")}, list{has(3, 5, 9, "hlbpp")}, nil, 1, api.OK)

	a, b := list{has(2, 5, 9, "gqa"), has(3, 5, 9, "ida")}, list{has(2, 5, 9, "uqa"), has(3, 5, 9, "wka")}
	node(t, a, 5, 1470768063, api.OK)
	node(t, b, 5, 1470768063, api.OK)
	diffEitherWay(t, a, b, nil, 1, api.OK)
	diffEitherWay(t, append(slices.Clone(a), has(7, 1, 1, "")), b, []int{7}, 7, api.OK)
	diffEitherWay(t, append(list{has(0, 1, 1, "")}, a...), b, []int{0}, 7, api.OK)
}

func TestDiffOfAWrongCache(t *testing.T) {
	for _, w := range wrong {
		for _, l := range right {
			diffEitherWay(t, w.l, l, nil, 0, w.want)
		}
	}
}

func TestDiffTellsWhatIsWrongWithTheFirstOneFirst(t *testing.T) {
	for _, a := range wrong {
		for _, b := range wrong {
			diff(t, a.l, b.l, nil, 0, a.want)
		}
	}
}

// roomy is a copy of a cache that has room behind it, and something in that room.
func roomy(l list) list {
	long := append(slices.Clone(l), has(7, 77, 77, "behind"), has(7, 78, 78, "behind"))
	return long[:len(l)]
}

// kept checks that a cache, and what lies behind it, are as roomy made them.
func kept(t *testing.T, got, made list) {
	t.Helper()
	want := roomy(made)
	if !slices.Equal(got[:len(made)+2], want[:len(made)+2]) {
		t.Errorf("a cache was written into: got %+v, want %+v", got[:len(made)+2], want[:len(made)+2])
	}
}

func TestNodeWritesIntoNothing(t *testing.T) {
	for _, l := range right {
		for i := range 17 {
			in := roomy(l)
			n, err := tree.Node(in, i)
			kept(t, in, l)
			node(t, l, i, n, plain.Told(err))
		}
	}
	for _, w := range wrong {
		in := roomy(w.l)
		node(t, in, 1, 0, w.want)
		kept(t, in, w.l)
	}
}

func TestDiffWritesIntoNothing(t *testing.T) {
	for _, a := range right {
		for _, b := range right {
			x, y := roomy(a), roomy(b)
			first, _, _ := tree.Diff(x, y)
			second, asked, err := tree.Diff(x, y)
			want := slices.Clone(second)
			for i := range first[:cap(first)] {
				first[:cap(first)][i] = -5
			}
			if !slices.Equal(second, want) {
				t.Errorf("two answers of Diff share memory")
			}
			kept(t, x, a)
			kept(t, y, b)
			diff(t, a, b, want, asked, plain.Told(err))
		}
	}
	for _, w := range wrong {
		x, y := roomy(w.l), roomy(some())
		diffEitherWay(t, x, y, nil, 0, w.want)
		kept(t, x, w.l)
		kept(t, y, some())
	}
}

// TestWhatAStoreToldAtTwoTimes holds the keys against those that were changed between.
func TestWhatAStoreToldAtTwoTimes(t *testing.T) {
	s := store.New()
	changed := []int{4, 1, 6, 1, 4, 7, 0, 4}
	for i, key := range changed {
		if _, err := s.Put(key, fmt.Sprint("text ", i)); err != nil {
			t.Fatal(err)
		}
	}
	at := func(seq int) list {
		var l list
		for key := range api.Keys {
			e, err := s.At(key, seq)
			if err != nil {
				t.Fatal(err)
			}
			l = append(l, e)
		}
		return l
	}
	for from := range s.Seq() + 1 {
		for to := from; to <= s.Seq(); to++ {
			keys := slices.Clone(changed[from:to])
			slices.Sort(keys)
			keys = slices.Compact(keys)
			diffEitherWay(t, at(from), at(to), keys, asks(keys), api.OK)
		}
	}
}

// TestWhatPartsIsAllThatIsLacked gives each of two caches the keys that Diff names: then they part no more.
func TestWhatPartsIsAllThatIsLacked(t *testing.T) {
	for x := range 256 {
		a, b := subset(x), subset(0x3c)
		keys, _, err := tree.Diff(a, b)
		if err != nil {
			t.Fatal(err)
		}
		for _, key := range keys {
			if e, err := cache.Get(b, key); err == nil {
				a, _, _ = cache.Add(a, e)
			} else if e, err = cache.Get(a, key); err == nil {
				b, _, _ = cache.Add(b, e)
			}
		}
		diffEitherWay(t, a, b, nil, 1, api.OK)
	}
}

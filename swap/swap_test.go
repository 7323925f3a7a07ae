package swap_test

import (
	"fmt"
	"math"
	"math/rand/v2"
	"slices"
	"strings"
	"testing"

	"beaconmere/api"
	"beaconmere/entry"
	"beaconmere/plain"
	"beaconmere/store"
	"beaconmere/swap"
	"beaconmere/tree"
)

type list = []api.Entry

var wrongKeys = []int{-1, 8, 9, -8, 15, 16, 255, 256, 1 << 32, math.MinInt, math.MaxInt}

var text12 = strings.Repeat("z", api.MaxText)

var text13 = strings.Repeat("z", api.MaxText+1)

var allKeys = []int{0, 1, 2, 3, 4, 5, 6, 7}

// has makes an entry with a text.
func has(key, version, asOf int, text string) api.Entry {
	return api.Entry{Key: key, Version: version, AsOf: asOf, Text: text}
}

// gone makes an entry of a key that is Gone.
func gone(key, version, asOf int) api.Entry {
	return api.Entry{Key: key, Version: version, AsOf: asOf, Gone: true}
}

// goneWithText makes an entry with a fault that is told ErrShape.
func goneWithText(key int) api.Entry {
	return api.Entry{Key: key, Version: 1, AsOf: 2, Gone: true, Text: "a"}
}

// some is a cache with room ahead of its keys, between them and behind them.
func some() list { return list{has(2, 5, 7, "a"), gone(4, 3, 9), has(6, 1, 1, "")} }

// every is a cache with all keys.
func every() list {
	var l list
	for key := range api.Keys {
		l = append(l, has(key, key, 10+key, "a"))
	}
	return l
}

// newer is what every has, each key of a greater version than there.
func newer() list {
	var l list
	for key := range api.Keys {
		l = append(l, gone(key, 500+key, 600+key))
	}
	return l
}

// with is a copy of a cache in which one is another one.
func with(l list, i int, e api.Entry) list {
	l = slices.Clone(l)
	l[i] = e
	return l
}

// only is what a cache has of those keys whose bits are set.
func only(l list, bits int) list {
	var part list
	for _, e := range l {
		if bits>>e.Key&1 == 1 {
			part = append(part, e)
		}
	}
	return part
}

// mixed is what newer has of the keys whose bits are set, and every of the others.
func mixed(bits int) list {
	l := every()
	for _, e := range only(newer(), bits) {
		l[e.Key] = e
	}
	return l
}

// keysOf gives the keys whose bits are set, rising.
func keysOf(bits int) []int {
	var keys []int
	for key := range api.Keys {
		if bits>>key&1 == 1 {
			keys = append(keys, key)
		}
	}
	return keys
}

// backwards is a copy of keys, the last one first.
func backwards(keys []int) []int {
	keys = slices.Clone(keys)
	slices.Reverse(keys)
	return keys
}

// shown is a list as it is told where a test fails, cut where it is far too long to read.
func shown[T any](l []T) string {
	if len(l) > 20 {
		return fmt.Sprintf("%d of %+v", len(l), l[:20])
	}
	return fmt.Sprintf("%+v", l)
}

func lacks(t *testing.T, a, b list, want []int, wantErr api.Errno) {
	t.Helper()
	if keys, err := swap.Lacks(a, b); !slices.Equal(keys, want) || plain.Told(err) != wantErr {
		t.Fatalf("Lacks(%s, %s): got %v, %v, want %v, %v", shown(a), shown(b), keys, err, want, wantErr)
	}
}

func gives(t *testing.T, l list, keys []int, want list, wantErr api.Errno) {
	t.Helper()
	if got, err := swap.Give(l, keys); !slices.Equal(got, want) || plain.Told(err) != wantErr {
		t.Fatalf("Give(%s, %s): got %+v, %v, want %+v, %v", shown(l), shown(keys), got, err, want, wantErr)
	}
}

func pairs(t *testing.T, a, b, wantOne, wantOther list, wantErr api.Errno) {
	t.Helper()
	one, other, err := swap.Pair(a, b)
	if !slices.Equal(one, wantOne) || !slices.Equal(other, wantOther) || plain.Told(err) != wantErr {
		t.Fatalf("Pair(%s, %s): got %+v, %+v, %v, want %+v, %+v, %v", shown(a), shown(b), one, other, err, wantOne, wantOther, wantErr)
	}
}

// lacksEitherWay checks a Lacks of which it does not count who comes first.
func lacksEitherWay(t *testing.T, a, b list, want []int, wantErr api.Errno) {
	t.Helper()
	lacks(t, a, b, want, wantErr)
	lacks(t, b, a, want, wantErr)
}

// pairsEitherWay checks a Pair, and that round the other way each has the same.
func pairsEitherWay(t *testing.T, a, b, wantOne, wantOther list, wantErr api.Errno) {
	t.Helper()
	pairs(t, a, b, wantOne, wantOther, wantErr)
	pairs(t, b, a, wantOther, wantOne, wantErr)
}

// right are caches with nothing wrong, the edges among them.
var right = []list{
	nil,
	{},
	{{}},
	{gone(0, 0, 0)},
	{has(7, 1000, 1000, text12)},
	{has(0, 0, 0, ""), gone(7, 0, 1000)},
	{has(0, 9, 9, "a"), has(1, 1, 1, "b")},
	{has(3, 5, 9, "\x00\xff\x80/")},
	some(),
	every(),
	newer(),
}

// wrong are caches with their faults; where several apply, the one that is told.
var wrong = []struct {
	l    list
	want api.Errno
}{
	{append(every(), has(7, 1, 2, "a")), api.ErrFull},
	{append(list{goneWithText(0)}, every()...), api.ErrFull},
	{make(list, 9), api.ErrFull},
	{make(list, 100_000), api.ErrFull},
	{slices.Repeat(list{has(-1, 1, 2, "a")}, 9), api.ErrFull},

	{list{has(-1, 1, 2, "a")}, api.ErrRange},
	{list{has(8, 1, 2, "a")}, api.ErrRange},
	{list{has(math.MinInt, 1, 2, "a"), has(math.MaxInt, 1, 2, "a")}, api.ErrRange},
	{list{has(3, -1, 1, "a")}, api.ErrRange},
	{list{has(3, 1001, 1001, "a")}, api.ErrRange},
	{list{has(3, 2, 1, "a")}, api.ErrRange},
	{list{has(3, 1, 1001, "a")}, api.ErrRange},
	{list{has(3, 1, 2, text13)}, api.ErrFull},
	{list{goneWithText(3)}, api.ErrShape},
	{with(every(), 7, goneWithText(7)), api.ErrShape},

	{list{has(3, 1, 2, "a"), has(3, 1, 2, "a")}, api.ErrShape},
	{list{has(4, 1, 2, "a"), has(3, 1, 2, "a")}, api.ErrShape},
	{list{has(3, 1, 2, "a"), has(5, 1, 2, "a"), has(4, 1, 2, "a")}, api.ErrShape},
	{make(list, 8), api.ErrShape},

	// Of several entries with a fault the first one counts, and of its faults that within the entry.
	{list{has(3, 1, 2, text13), goneWithText(4), has(-1, 1, 2, "a")}, api.ErrFull},
	{list{has(-1, 1, 2, "a"), goneWithText(3), has(4, 1, 2, text13)}, api.ErrRange},
	{list{has(4, 1, 2, "a"), has(3, 1, 2, text13)}, api.ErrFull},
	{list{has(4, 1, 2, "a"), has(3, 1, 2, "a"), has(5, 1, 2, text13)}, api.ErrShape},
}

// wrongLists are lists of keys with their faults; where several apply, the one that is told.
func wrongLists() map[api.Errno][][]int {
	out := map[api.Errno][][]int{
		api.ErrFull: {
			{0, 1, 2, 3, 4, 5, 6, 7, 0},
			{0, 1, 2, 3, 4, 5, 6, 7, 7},
			{0, 1, 2, 3, 4, 5, 6, 7, 8},
			{-1, 0, 1, 2, 3, 4, 5, 6, 7},
			make([]int, 9),
			make([]int, 100_000),
			slices.Repeat([]int{-1}, 9),
		},
		api.ErrRange: {
			{-1, -1},
			{8, 8},
			{-1, 8},
			{8, -1},
			{0, 1, 2, 3, 4, 5, 6, 8},
			{-1, 0, 1, 2, 3, 4, 5, 6},
			// One that is no key, and behind it one that was named ahead.
			{-1, 3, 3},
			{3, 8, 3},
			{3, -1, -1},
			slices.Repeat([]int{8}, 8),
		},
		api.ErrClash: {
			{0, 0},
			{3, 3},
			{7, 7},
			{1, 5, 1},
			{5, 1, 1},
			{0, 1, 2, 3, 4, 5, 6, 0},
			{0, 1, 2, 3, 4, 5, 6, 6},
			// One that was named ahead, and behind it one that is no key.
			{3, 3, -1},
			{3, 4, 3, 8},
			make([]int, 8),
		},
	}
	for _, key := range wrongKeys {
		for i := range api.Keys {
			keys := slices.Clone(allKeys)
			keys[i] = key
			out[api.ErrRange] = append(out[api.ErrRange], []int{key}, keys)
		}
	}
	for i := range api.Keys {
		for j := range i {
			keys := slices.Clone(allKeys)
			keys[i] = keys[j]
			out[api.ErrClash] = append(out[api.ErrClash], keys)
		}
	}
	return out
}

func TestLacksOfTheSame(t *testing.T) {
	for _, l := range right {
		lacks(t, l, l, nil, api.OK)
		lacks(t, l, slices.Clone(l), nil, api.OK)
	}
	lacksEitherWay(t, nil, list{}, nil, api.OK)
}

func TestLacksOfOneKey(t *testing.T) {
	for key := range api.Keys {
		for _, e := range []api.Entry{has(key, key, 10+key, "b"), has(key, key, 10+key, ""), gone(key, key, 10+key), has(key, key+1, 10+key, "a"), newer()[key]} {
			lacksEitherWay(t, every(), with(every(), key, e), []int{key}, api.OK)
		}
		lacksEitherWay(t, every(), only(every(), 255&^(1<<key)), []int{key}, api.OK)
	}
}

func TestLacksOfSomeKeysAndOfAll(t *testing.T) {
	for bits := range 256 {
		lacksEitherWay(t, every(), mixed(bits), keysOf(bits), api.OK)
		lacksEitherWay(t, newer(), mixed(bits), keysOf(255&^bits), api.OK)
		lacksEitherWay(t, every(), only(every(), bits), keysOf(255&^bits), api.OK)
	}
	lacksEitherWay(t, every(), newer(), allKeys, api.OK)
	lacksEitherWay(t, only(every(), 0x55), only(every(), 0xaa), allKeys, api.OK)
}

func TestLacksOfNone(t *testing.T) {
	for bits := range 256 {
		for _, none := range []list{nil, {}} {
			lacksEitherWay(t, none, only(every(), bits), keysOf(bits), api.OK)
			lacksEitherWay(t, none, only(newer(), bits), keysOf(bits), api.OK)
		}
	}
	lacksEitherWay(t, nil, list{gone(0, 0, 0)}, []int{0}, api.OK)
	lacksEitherWay(t, nil, some(), []int{2, 4, 6}, api.OK)
}

// TestLacksNothingWhereTheTimeAloneIsAnother has caches that know the same up to another time: their trees do not part there.
func TestLacksNothingWhereTheTimeAloneIsAnother(t *testing.T) {
	later := every()
	for i := range later {
		later[i].AsOf = 900 + i
		lacksEitherWay(t, every(), later, nil, api.OK)
	}
	lacksEitherWay(t, every(), with(later, 6, gone(6, 906, 906)), []int{6}, api.OK)
}

func TestLacksIsDiffs(t *testing.T) {
	for _, a := range someCaches(80) {
		for _, b := range someCaches(80) {
			keys, _, err := tree.Diff(a, b)
			lacks(t, a, b, keys, plain.Told(err))
		}
	}
}

func TestLacksOfAWrongCache(t *testing.T) {
	for _, w := range wrong {
		for _, l := range right {
			lacksEitherWay(t, w.l, l, nil, w.want)
		}
	}
}

func TestLacksTellsWhatIsWrongWithTheFirstOneFirst(t *testing.T) {
	for _, a := range wrong {
		for _, b := range wrong {
			lacks(t, a.l, b.l, nil, a.want)
		}
	}
}

func TestGiveOfNoKeys(t *testing.T) {
	for _, l := range right {
		gives(t, l, nil, nil, api.OK)
		gives(t, l, []int{}, nil, api.OK)
	}
}

func TestGiveOfOneKey(t *testing.T) {
	for key := range api.Keys {
		gives(t, every(), []int{key}, list{every()[key]}, api.OK)
		gives(t, newer(), []int{key}, list{newer()[key]}, api.OK)
		gives(t, every()[key:key+1], []int{key}, list{every()[key]}, api.OK)
	}
	gives(t, some(), []int{4}, list{gone(4, 3, 9)}, api.OK)
	gives(t, list{{}}, []int{0}, list{{}}, api.OK)
	gives(t, list{has(7, 1000, 1000, text12)}, []int{7}, list{has(7, 1000, 1000, text12)}, api.OK)
}

func TestGiveOfAllKeys(t *testing.T) {
	for _, l := range right {
		gives(t, l, allKeys, l, api.OK)
		gives(t, l, backwards(allKeys), l, api.OK)
	}
}

func TestGiveOfKeysThatAreNotThere(t *testing.T) {
	for key := range api.Keys {
		gives(t, nil, []int{key}, nil, api.OK)
		gives(t, list{}, []int{key}, nil, api.OK)
		gives(t, only(every(), 255&^(1<<key)), []int{key}, nil, api.OK)
	}
	gives(t, some(), []int{0, 1, 3, 5, 7}, nil, api.OK)
	gives(t, some(), []int{7, 6, 5, 0}, list{has(6, 1, 1, "")}, api.OK)
}

func TestGiveGoesByKeys(t *testing.T) {
	l := some()
	for _, keys := range [][]int{{2, 4, 6}, {2, 6, 4}, {4, 2, 6}, {4, 6, 2}, {6, 2, 4}, {6, 4, 2}} {
		gives(t, l, keys, l, api.OK)
	}
	gives(t, l, []int{6, 2}, list{l[0], l[2]}, api.OK)
	gives(t, l, []int{4, 2}, list{l[0], l[1]}, api.OK)
	gives(t, every(), []int{7, 0, 3}, list{every()[0], every()[3], every()[7]}, api.OK)
}

// TestGiveOfEachKeysFromEachCache names keys rising, falling and in an order by chance, always the same one.
func TestGiveOfEachKeysFromEachCache(t *testing.T) {
	from := rand.New(rand.NewPCG(13, 1))
	for x := range 256 {
		for y := range 256 {
			keys := keysOf(y)
			gives(t, only(every(), x), keys, only(every(), x&y), api.OK)
			gives(t, only(newer(), x), backwards(keys), only(newer(), x&y), api.OK)
			from.Shuffle(len(keys), func(i, j int) { keys[i], keys[j] = keys[j], keys[i] })
			gives(t, only(mixed(0x5a), x), keys, only(mixed(0x5a), x&y), api.OK)
		}
	}
}

func TestGiveOfWrongKeys(t *testing.T) {
	for want, lists := range wrongLists() {
		for _, keys := range lists {
			for _, l := range right {
				gives(t, l, keys, nil, want)
			}
		}
	}
}

func TestGiveFromAWrongCache(t *testing.T) {
	for _, w := range wrong {
		gives(t, w.l, nil, nil, w.want)
		gives(t, w.l, allKeys, nil, w.want)
		for key := range api.Keys {
			gives(t, w.l, []int{key}, nil, w.want)
		}
	}
}

func TestGiveTellsWhatIsWrongWithTheCacheFirst(t *testing.T) {
	for _, w := range wrong {
		for _, lists := range wrongLists() {
			for _, keys := range lists {
				gives(t, w.l, keys, nil, w.want)
			}
		}
	}
}

func TestPairOfTheSame(t *testing.T) {
	for _, l := range right {
		pairs(t, l, l, l, l, api.OK)
		pairs(t, l, slices.Clone(l), l, l, api.OK)
	}
	pairsEitherWay(t, nil, list{}, nil, nil, api.OK)
}

func TestPairThatPartsInOneKey(t *testing.T) {
	for key := range api.Keys {
		l := mixed(1 << key)
		pairsEitherWay(t, every(), l, l, l, api.OK)
		pairsEitherWay(t, every(), only(every(), 255&^(1<<key)), every(), every(), api.OK)
		pairsEitherWay(t, every(), with(every(), key, has(key, 500, 500, "")), with(every(), key, has(key, 500, 500, "")), with(every(), key, has(key, 500, 500, "")), api.OK)
	}
}

// TestPairThatPartsInSomeKeysAndInAll has newer ones on either side.
func TestPairThatPartsInSomeKeysAndInAll(t *testing.T) {
	for x := range 256 {
		for y := range 256 {
			pairs(t, mixed(x), mixed(y), mixed(x|y), mixed(x|y), api.OK)
		}
	}
	pairsEitherWay(t, every(), newer(), newer(), newer(), api.OK)
}

// TestPairWhereOneLacks has each two caches that have some keys of one: each then has those of both.
func TestPairWhereOneLacks(t *testing.T) {
	for x := range 256 {
		for y := range 256 {
			l := only(every(), x|y)
			pairs(t, only(every(), x), only(every(), y), l, l, api.OK)
		}
	}
}

func TestPairOfNone(t *testing.T) {
	for _, l := range right {
		for _, none := range []list{nil, {}} {
			pairsEitherWay(t, none, l, l, l, api.OK)
		}
	}
	for bits := range 256 {
		l := only(newer(), bits)
		pairsEitherWay(t, nil, l, l, l, api.OK)
	}
}

// grid is all that a key can be with some versions and times, and that it is not there.
func grid(key int) []list {
	all := []list{nil}
	for version := range 4 {
		for asOf := version; asOf < 5; asOf++ {
			all = append(all, list{gone(key, version, asOf)}, list{has(key, version, asOf, "")}, list{has(key, version, asOf, "a")})
		}
	}
	return append(all, list{has(key, 1000, 1000, "a")}, list{gone(key, 1000, 1000)}, list{has(key, 0, 999, "a")}, list{has(key, 0, 1000, "a")})
}

// says is what of an entry counts where two are held against each other.
func says(l list) string {
	if len(l) == 0 {
		return "nothing"
	}
	return fmt.Sprintln(l[0].Version, l[0].Gone, l[0].Text)
}

// pairByRule works out what two have of one key, each at most one entry of it, behind a Pair, and what is wrong.
func pairByRule(t *testing.T, a, b list) (list, list, api.Errno) {
	t.Helper()
	switch {
	case says(a) == says(b):
		return a, b, api.OK
	case len(a) == 0:
		return b, b, api.OK
	case len(b) == 0:
		return a, a, api.OK
	}
	e, err := entry.Join(a[0], b[0])
	if err != nil {
		if plain.Told(err) != api.ErrClash {
			t.Fatalf("Join(%+v, %+v): got %v", a[0], b[0], err)
		}
		return nil, nil, api.ErrClash
	}
	return list{e}, list{e}, api.OK
}

// TestPairOfEachTwoOfAKey has them alone, and beside keys in which nothing parts, ahead and behind.
func TestPairOfEachTwoOfAKey(t *testing.T) {
	for _, key := range []int{0, 3, 7} {
		beside := func(l list) list {
			if len(l) == 0 {
				return only(every(), 255&^(1<<key))
			}
			return with(every(), key, l[0])
		}
		for _, a := range grid(key) {
			for _, b := range grid(key) {
				one, other, err := pairByRule(t, a, b)
				pairs(t, a, b, one, other, err)
				if err == api.OK {
					pairs(t, beside(a), beside(b), beside(one), beside(other), err)
				} else {
					pairs(t, beside(a), beside(b), nil, nil, err)
				}
			}
		}
	}
}

func TestPairTakesWhatAJoinTells(t *testing.T) {
	a := list{has(1, 2, 3, "a"), has(4, 5, 9, "b"), gone(6, 3, 4)}
	b := list{has(0, 1, 1, ""), has(1, 4, 6, "c"), gone(3, 0, 9), has(4, 1, 4, "d"), has(6, 5, 5, ""), has(7, 9, 9, "z")}
	both := list{has(0, 1, 1, ""), has(1, 4, 6, "c"), gone(3, 0, 9), has(4, 5, 9, "b"), has(6, 5, 5, ""), has(7, 9, 9, "z")}
	pairsEitherWay(t, a, b, both, both, api.OK)
	// The lesser one is known up to just ahead of the greater one.
	pairsEitherWay(t, list{gone(2, 0, 999)}, list{has(2, 1000, 1000, "a")}, list{has(2, 1000, 1000, "a")}, list{has(2, 1000, 1000, "a")}, api.OK)
	pairsEitherWay(t, list{has(2, 0, 0, "a")}, list{gone(2, 1, 1)}, list{gone(2, 1, 1)}, list{gone(2, 1, 1)}, api.OK)
}

// TestPairKeepsWhatDoesNotPart has entries that another time alone tells from each other: they stay, also beside keys that part.
func TestPairKeepsWhatDoesNotPart(t *testing.T) {
	later := every()
	for i := range later {
		later[i].AsOf = 400 + i
	}
	for bits := range 256 {
		l := every()
		for _, e := range only(later, bits) {
			l[e.Key] = e
		}
		pairsEitherWay(t, every(), l, every(), l, api.OK)
		pairsEitherWay(t, later, l, later, l, api.OK)
	}
	for key := range api.Keys {
		pairsEitherWay(t, with(every(), key, newer()[key]), later, with(every(), key, newer()[key]), with(later, key, newer()[key]), api.OK)
		rest := 255 &^ (1 << key)
		pairsEitherWay(t, only(every(), rest), later, with(every(), key, later[key]), later, api.OK)
		pairsEitherWay(t, every(), only(later, rest), every(), with(later, key, every()[key]), api.OK)
	}
}

// TestPairGoesByTheTreesAlone has entries that say otherwise, but whose nodes happen to be the same: they do not part, so that each stays, and none is Joined.
func TestPairGoesByTheTreesAlone(t *testing.T) {
	zero := list{has(3, 5, 9, "dsvzzpe")}
	pairsEitherWay(t, zero, nil, zero, nil, api.OK)
	pairsEitherWay(t, zero, list{has(2, 5, 9, "a")}, list{has(2, 5, 9, "a"), zero[0]}, list{has(2, 5, 9, "a")}, api.OK)

	a, b := list{has(3, 5, 9, "vaczf")}, list{has(3, 5, 9, "hlbpp")}
	pairsEitherWay(t, a, b, a, b, api.OK)

	a, b = list{has(2, 5, 9, "gqa"), has(3, 5, 9, "ida")}, list{has(2, 5, 9, "uqa"), has(3, 5, 9, "wka")}
	pairsEitherWay(t, a, b, a, b, api.OK)
	more := has(7, 1, 1, "")
	pairsEitherWay(t, append(slices.Clone(a), more), b, append(slices.Clone(a), more), append(slices.Clone(b), more), api.OK)
}

// clashes are, for a key, entries that can't both be so.
func clashes(key int) [][2]api.Entry {
	return [][2]api.Entry{
		{has(key, 5, 7, "a"), has(key, 5, 7, "b")},
		{has(key, 5, 7, "a"), has(key, 5, 9, "")},
		{has(key, 5, 7, ""), gone(key, 5, 7)},
		{has(key, 0, 0, ""), gone(key, 0, 0)},
		{has(key, 5, 7, "a"), has(key, 7, 9, "b")},
		{has(key, 5, 7, "a"), has(key, 6, 6, "a")},
		{gone(key, 0, 1000), has(key, 1, 1, "a")},
		{has(key, 0, 1000, "a"), gone(key, 1000, 1000)},
	}
}

// TestPairThatClashes has it alone, beside keys that do not part, and beside such as part, ahead and behind.
func TestPairThatClashes(t *testing.T) {
	for key := range api.Keys {
		for _, c := range clashes(key) {
			a, b := list{c[0]}, list{c[1]}
			pairsEitherWay(t, a, b, nil, nil, api.ErrClash)
			pairsEitherWay(t, with(every(), key, c[0]), b, nil, nil, api.ErrClash)
			pairsEitherWay(t, a, with(every(), key, c[1]), nil, nil, api.ErrClash)
			pairsEitherWay(t, with(every(), key, c[0]), with(every(), key, c[1]), nil, nil, api.ErrClash)
			pairsEitherWay(t, with(every(), key, c[0]), with(newer(), key, c[1]), nil, nil, api.ErrClash)
		}
	}
}

func TestPairOfAWrongCache(t *testing.T) {
	for _, w := range wrong {
		for _, l := range right {
			pairsEitherWay(t, w.l, l, nil, nil, w.want)
		}
	}
}

func TestPairTellsWhatIsWrongWithTheFirstOneFirst(t *testing.T) {
	for _, a := range wrong {
		for _, b := range wrong {
			pairs(t, a.l, b.l, nil, nil, a.want)
		}
	}
}

// TestPairTellsWhatIsWrongAheadOfAClash has caches that clash in their first key, and of which one has a fault behind it.
func TestPairTellsWhatIsWrongAheadOfAClash(t *testing.T) {
	for _, c := range clashes(0) {
		a := list{c[0]}
		pairsEitherWay(t, a, list{c[1], has(3, 1, 2, text13)}, nil, nil, api.ErrFull)
		pairsEitherWay(t, a, list{c[1], goneWithText(3)}, nil, nil, api.ErrShape)
		pairsEitherWay(t, a, list{c[1], c[1]}, nil, nil, api.ErrShape)
		pairsEitherWay(t, a, list{c[1], has(8, 1, 2, "a")}, nil, nil, api.ErrRange)
	}
}

// someCaches are caches by chance, always the same ones; of some two of them each key can be Joined, of others not.
func someCaches(times int) []list {
	from := rand.New(rand.NewPCG(13, 38))
	var all []list
	for range times {
		var l list
		for key := range api.Keys {
			version := 3 * from.IntN(4)
			asOf := version + from.IntN(3)
			switch from.IntN(20) {
			case 0, 1, 2, 3, 4, 5:
			case 6:
				l = append(l, has(key, version, asOf+2, "b"))
			default:
				l = append(l, api.Entry{Key: key, Version: version, AsOf: asOf, Gone: version == 6, Text: []string{"a", "", "", "c"}[version/3]})
			}
		}
		all = append(all, l)
	}
	return all
}

// TestPairOfSomeCaches works it out key by key.
func TestPairOfSomeCaches(t *testing.T) {
	clashed, fitted := 0, 0
	for _, a := range someCaches(200) {
		for _, b := range someCaches(200) {
			var one, other list
			wantErr := api.OK
			for key := range api.Keys {
				x, y, err := pairByRule(t, only(a, 1<<key), only(b, 1<<key))
				one, other = append(one, x...), append(other, y...)
				wantErr = max(wantErr, err)
			}
			if wantErr == api.OK {
				fitted++
				pairs(t, a, b, one, other, api.OK)
			} else {
				clashed++
				pairs(t, a, b, nil, nil, wantErr)
			}
		}
	}
	if clashed == 0 || fitted == 0 {
		t.Errorf("of the caches by chance %d clash, and %d do not", clashed, fitted)
	}
}

// partNoMore checks that behind a Pair nothing is lacked, that two roots are the same, and that another Pair changes nothing.
func partNoMore(t *testing.T, a, b list) {
	t.Helper()
	one, other, err := swap.Pair(a, b)
	if err != nil {
		return
	}
	lacksEitherWay(t, one, other, nil, api.OK)
	x, errX := tree.Node(one, 1)
	y, errY := tree.Node(other, 1)
	if x != y || errX != nil || errY != nil {
		t.Errorf("behind Pair(%+v, %+v): roots %d, %v and %d, %v", a, b, x, errX, y, errY)
	}
	pairsEitherWay(t, one, other, one, other, api.OK)
}

func TestBehindAPairTheyPartNoMore(t *testing.T) {
	for _, a := range right {
		for _, b := range right {
			partNoMore(t, a, b)
		}
	}
	for _, a := range someCaches(150) {
		for _, b := range someCaches(150) {
			partNoMore(t, a, b)
		}
	}
	for bits := range 256 {
		partNoMore(t, mixed(bits), mixed(0x3c))
		partNoMore(t, only(every(), bits), only(newer(), 0x69))
	}
	partNoMore(t, list{has(2, 5, 9, "gqa"), has(3, 5, 9, "ida")}, list{has(2, 5, 9, "uqa"), has(3, 5, 9, "wka"), gone(7, 1, 1)})
}

// told plays a store, and gives what it tells of each key at each time.
func told(t *testing.T) (*store.Store, func(key, seq int) api.Entry) {
	t.Helper()
	s := store.New()
	for i, key := range []int{4, 1, 6, 1, 4, 7, 0, 4, 6, 2} {
		if _, err := s.Put(key, fmt.Sprint("text ", i)); err != nil {
			t.Fatal(err)
		}
		if i%3 == 2 {
			if _, err := s.Delete(key); err != nil {
				t.Fatal(err)
			}
		}
	}
	return s, func(key, seq int) api.Entry {
		e, err := s.At(key, seq)
		if err != nil {
			t.Fatal(err)
		}
		return e
	}
}

// TestPairOfWhatAStoreTold never clashes, and each has of each key what is the newest that either one was told.
func TestPairOfWhatAStoreTold(t *testing.T) {
	s, at := told(t)
	from := rand.New(rand.NewPCG(13, 13))
	part := func() list {
		var l list
		for key := range api.Keys {
			if from.IntN(4) > 0 {
				l = append(l, at(key, from.IntN(s.Seq()+1)))
			}
		}
		return l
	}
	for range 3000 {
		a, b := part(), part()
		one, other, err := swap.Pair(a, b)
		if err != nil {
			t.Fatalf("Pair(%+v, %+v): got %v", a, b, err)
		}
		for key := range api.Keys {
			newest := -1
			for _, e := range append(only(a, 1<<key), only(b, 1<<key)...) {
				newest = max(newest, e.Version)
			}
			for _, l := range []list{only(one, 1<<key), only(other, 1<<key)} {
				if newest < 0 && len(l) != 0 || newest >= 0 && (len(l) != 1 || l[0].Version != newest) {
					t.Errorf("Pair(%+v, %+v): of key %d there is %+v, want Version %d", a, b, key, l, newest)
				}
				for _, e := range l {
					if e != at(key, e.AsOf) {
						t.Errorf("Pair(%+v, %+v): %+v was never so", a, b, e)
					}
				}
			}
		}
		partNoMore(t, a, b)
	}
}

var behind = has(7, 77, 77, "behind")

// roomy is a copy of a list that has room behind it, and something in that room.
func roomy[T any](l []T, behind T) []T {
	long := append(slices.Clone(l), behind, behind)
	return long[:len(l)]
}

// kept checks that a list, and what lies behind it, are as roomy made them.
func kept[T comparable](t *testing.T, got, made []T, behind T) {
	t.Helper()
	if want := append(slices.Clone(made), behind, behind); !slices.Equal(got[:len(want)], want) {
		t.Errorf("a list was written into: got %v, want %v", got[:len(want)], want)
	}
}

// spoil writes into all of an answer's memory, and checks that the others stay as they are.
func spoil[T comparable](t *testing.T, answer []T, with T, others ...[]T) {
	t.Helper()
	var want [][]T
	for _, l := range others {
		want = append(want, slices.Clone(l))
	}
	answer = answer[:cap(answer)]
	for i := range answer {
		answer[i] = with
	}
	for i, l := range others {
		if !slices.Equal(l, want[i]) {
			t.Errorf("two lists share memory: got %v, want %v", l, want[i])
		}
	}
}

// all are caches that are right, and such as are not.
func all() []list {
	l := append(slices.Clone(right), only(every(), 0x55), only(newer(), 0x3c))
	for _, w := range wrong {
		if len(w.l) < 100 {
			l = append(l, w.l)
		}
	}
	return append(l, list{clashes(3)[0][0]}, list{clashes(3)[0][1]})
}

func TestLacksWritesIntoNothing(t *testing.T) {
	for _, a := range all() {
		for _, b := range all() {
			x, y := roomy(a, behind), roomy(b, behind)
			first, _ := swap.Lacks(x, y)
			second, _ := swap.Lacks(x, y)
			spoil(t, first, -5, second)
			kept(t, x, a, behind)
			kept(t, y, b, behind)
		}
	}
}

func TestGiveWritesIntoNothing(t *testing.T) {
	lists := [][]int{nil, {}, allKeys, backwards(allKeys), {4, 2}, {7, 3, 0}, {3, 3}, {8}}
	for _, l := range all() {
		for _, keys := range lists {
			in, asked := roomy(l, behind), roomy(keys, 7)
			first, _ := swap.Give(in, asked)
			second, _ := swap.Give(in, asked)
			spoil(t, first, has(-5, -5, -5, "spoilt"), second)
			kept(t, in, l, behind)
			kept(t, asked, keys, 7)
		}
	}
}

// TestWhatLiesBehindIsNotRead has behind each list's length what would be a fault, or one more.
func TestWhatLiesBehindIsNotRead(t *testing.T) {
	for _, l := range right {
		in := roomy(l, has(-1, 1, 2, "a"))
		gives(t, in, roomy([]int{}, 3), nil, api.OK)
		gives(t, in, roomy(allKeys, -1), l, api.OK)
		pairsEitherWay(t, in, roomy(list{}, behind), l, l, api.OK)
		lacksEitherWay(t, in, l, nil, api.OK)
	}
}

// TestPairWritesIntoNothing also has that its two answers share no memory, and that it does not count whether one cache is handed in twice.
func TestPairWritesIntoNothing(t *testing.T) {
	spoilt := has(-5, -5, -5, "spoilt")
	for _, a := range all() {
		for _, b := range all() {
			x, y := roomy(a, behind), roomy(b, behind)
			one, other, _ := swap.Pair(x, y)
			again, otherAgain, _ := swap.Pair(x, y)
			spoil(t, one, spoilt, other, again, otherAgain)
			spoil(t, other, spoilt, again, otherAgain)
			kept(t, x, a, behind)
			kept(t, y, b, behind)
		}
		x := roomy(a, behind)
		one, other, _ := swap.Pair(x, x)
		spoil(t, one, spoilt, other)
		spoil(t, other, spoilt)
		kept(t, x, a, behind)
	}
}

package repair_test

import (
	"math"
	"math/bits"
	"math/rand/v2"
	"slices"
	"strings"
	"testing"

	"beaconmere/api"
	"beaconmere/plain"
	"beaconmere/repair"
	"beaconmere/store"
	"beaconmere/tomb"
)

type list = []api.Entry

type shelf = [][]api.Entry

var wrongKeys = []int{-1, 8, 9, -8, 255, 256, 1 << 32, math.MinInt, math.MaxInt}

// has makes an entry with a text.
func has(key, version, asOf int, text string) api.Entry {
	return api.Entry{Key: key, Version: version, AsOf: asOf, Text: text}
}

// gone makes an entry of a key that is Gone.
func gone(key, version, asOf int) api.Entry {
	return api.Entry{Key: key, Version: version, AsOf: asOf, Gone: true}
}

// every is a cache with all keys.
func every() list {
	var l list
	for key := range api.Keys {
		l = append(l, api.Entry{Key: key, Version: key, AsOf: 10 + key, Gone: key%2 == 1})
	}
	return l
}

// but is a cache of all keys but one.
func but(key int) list { return slices.Delete(every(), key, key+1) }

// around is a cache of all keys, of one of them what is handed in.
func around(e api.Entry) list {
	l := every()
	l[e.Key] = e
	return l
}

// alone are caches that have one entry each.
func alone(entries ...api.Entry) shelf {
	var l shelf
	for _, e := range entries {
		l = append(l, list{e})
	}
	return l
}

// amid are caches that have all keys each, of one of them what is handed in.
func amid(entries ...api.Entry) shelf {
	var l shelf
	for _, e := range entries {
		l = append(l, around(e))
	}
	return l
}

// orders goes over each order of some entries.
func orders(entries list, do func(list)) {
	var from func(int)
	from = func(i int) {
		if i == len(entries) {
			do(slices.Clone(entries))
			return
		}
		for j := i; j < len(entries); j++ {
			entries[i], entries[j] = entries[j], entries[i]
			from(i + 1)
			entries[i], entries[j] = entries[j], entries[i]
		}
	}
	from(0)
}

// same tells whether two rows have the same caches; empty and nil are the same.
func same(a, b shelf) bool {
	return slices.EqualFunc(a, b, func(x, y list) bool { return slices.Equal(x, y) })
}

// shown is a row of caches as it is told where a test fails, cut where it is far too long to read.
func shown(l shelf) shelf {
	var short shelf
	for _, own := range l[:min(len(l), 8)] {
		short = append(short, own[:min(len(own), 10)])
	}
	return short
}

func reads(t *testing.T, l shelf, key int, want api.Entry, wantErr api.Errno) {
	t.Helper()
	if e, err := repair.Read(l, key); e != want || plain.Told(err) != wantErr {
		t.Errorf("Read(%+v, %d): got %+v, %v, want %+v, %v", shown(l), key, e, err, want, wantErr)
	}
}

func lacks(t *testing.T, l shelf, key int, want []int, wantErr api.Errno) {
	t.Helper()
	if who, err := repair.Lacks(l, key); !slices.Equal(who, want) || plain.Told(err) != wantErr {
		t.Errorf("Lacks(%+v, %d): got %v, %v, want %v, %v", shown(l), key, who, err, want, wantErr)
	}
}

func writes(t *testing.T, l shelf, key int, want shelf, wantErr api.Errno) {
	t.Helper()
	if all, err := repair.Write(l, key); !same(all, want) || plain.Told(err) != wantErr {
		t.Errorf("Write(%+v, %d): got %+v, %v, want %+v, %v", shown(l), key, all, err, want, wantErr)
	}
}

func meets(t *testing.T, n, r, w int, want bool, wantErr api.Errno) {
	t.Helper()
	if is, err := repair.Meet(n, r, w); is != want || plain.Told(err) != wantErr {
		t.Errorf("Meet(%d, %d, %d): got %v, %v, want %v, %v", n, r, w, is, err, want, wantErr)
	}
}

// refused checks that all three calls tell the same error, and nothing else.
func refused(t *testing.T, l shelf, key int, want api.Errno) {
	t.Helper()
	reads(t, l, key, api.Entry{}, want)
	lacks(t, l, key, nil, want)
	writes(t, l, key, nil, want)
	all, _ := repair.Write(l, key)
	who, _ := repair.Lacks(l, key)
	if all != nil || who != nil {
		t.Errorf("with an error: got %+v, %v, want none", all, who)
	}
}

// written is a cache that has an entry in place of what was there of its key, all else as it was.
func written(own list, e api.Entry) list {
	var l list
	for key := range api.Keys {
		if key == e.Key {
			l = append(l, e)
			continue
		}
		for _, x := range own {
			if x.Key == key {
				l = append(l, x)
			}
		}
	}
	return l
}

// repaired checks all three calls, where the newest entry is known, and who lacks it.
func repaired(t *testing.T, l shelf, newest api.Entry, who []int) {
	t.Helper()
	reads(t, l, newest.Key, newest, api.OK)
	lacks(t, l, newest.Key, who, api.OK)
	var want shelf
	for _, own := range l {
		want = append(want, written(own, newest))
	}
	writes(t, l, newest.Key, want, api.OK)
	lacks(t, want, newest.Key, nil, api.OK)
	reads(t, want, newest.Key, newest, api.OK)
	writes(t, want, newest.Key, want, api.OK)
}

func TestOneCache(t *testing.T) {
	for key := range api.Keys {
		for _, e := range []api.Entry{has(key, 0, 0, ""), gone(key, 0, api.MaxSeq), has(key, 1000, 1000, "abcdefghijkl"), has(key, 5, 7, "a")} {
			repaired(t, alone(e), e, nil)
			repaired(t, amid(e), e, nil)
		}
		refused(t, shelf{nil}, key, api.ErrNone)
		refused(t, shelf{{}}, key, api.ErrNone)
		refused(t, shelf{but(key)}, key, api.ErrNone)
	}
}

// TestSomeHaveOne goes over each row of caches of which some have an entry of the key: those further on have a greater Version, or a lesser one.
func TestSomeHaveOne(t *testing.T) {
	for n := 1; n <= api.Nodes; n++ {
		for set := range 1 << n {
			for _, key := range []int{0, 3, 7} {
				rising, falling := make(shelf, n), make(shelf, n)
				var newest, first api.Entry
				for i := range n {
					rising[i], falling[i] = but(key), but(key)
					if set>>i&1 == 0 {
						continue
					}
					newest = has(key, 10*i, 10*i+9, "a")
					rising[i] = around(newest)
					e := gone(key, 90-10*i, 99-10*i)
					falling[i] = around(e)
					if first == (api.Entry{}) {
						first = e
					}
				}
				if set == 0 {
					refused(t, rising, key, api.ErrNone)
					continue
				}
				repaired(t, rising, newest, allBut(n, bits.Len(uint(set))-1))
				repaired(t, falling, first, allBut(n, bits.TrailingZeros(uint(set))))
			}
		}
	}
}

// allBut are the numbers below n without one.
func allBut(n, without int) []int {
	var l []int
	for i := range n {
		if i != without {
			l = append(l, i)
		}
	}
	return l
}

func TestUnlikeVersionsInEachOrder(t *testing.T) {
	newest := has(3, 30, 30, "d")
	orders(list{has(3, 0, 4, "a"), gone(3, 5, 9), has(3, 10, 29, "c"), newest}, func(l list) {
		at := slices.Index(l, newest)
		repaired(t, alone(l...), newest, allBut(4, at))
		repaired(t, amid(l...), newest, allBut(4, at))
	})
}

func TestOneVersionUnlikeTimesInEachOrder(t *testing.T) {
	for _, e := range []api.Entry{has(3, 4, 0, "a"), has(3, 4, 0, ""), gone(3, 4, 0)} {
		var l list
		for _, asOf := range []int{4, 5, 9, api.MaxSeq} {
			e.AsOf = asOf
			l = append(l, e)
		}
		orders(l, func(l list) {
			repaired(t, alone(l...), e, nil)
			repaired(t, amid(l...), e, nil)
		})
	}
}

func TestUnlikeVersionsAndTimesInEachOrder(t *testing.T) {
	newest := gone(3, 8, 12)
	orders(list{has(3, 4, 4, "a"), has(3, 4, 7, "a"), gone(3, 8, 8), newest, gone(3, 8, 11)}, func(l list) {
		var who []int
		for i, e := range l {
			if e.Version == 4 {
				who = append(who, i)
			}
		}
		repaired(t, alone(l...), newest, who)
	})
}

func TestTheTimeAloneIsNotTheNewest(t *testing.T) {
	old, newest := has(3, 1, 7, "a"), has(3, 8, 8, "b")
	repaired(t, shelf{{old}, {newest}}, newest, []int{0})
	repaired(t, shelf{{newest}, {old}}, newest, []int{1})
}

func TestAllTheSame(t *testing.T) {
	for n := 1; n <= api.Nodes; n++ {
		for key, e := range every() {
			repaired(t, slices.Repeat(shelf{every()}, n), e, nil)
			refused(t, slices.Repeat(shelf{but(key)}, n), key, api.ErrNone)
			refused(t, make(shelf, n), key, api.ErrNone)
		}
	}
}

func TestVersionsAtTheirEdges(t *testing.T) {
	none, last := gone(7, 0, 0), has(7, 1000, 1000, "z")
	repaired(t, shelf{{none}, {last}, nil}, last, []int{0, 2})
	repaired(t, shelf{{last}, nil, {none}}, last, []int{1, 2})
	repaired(t, shelf{nil, {none}, {none}}, none, []int{0})
	repaired(t, shelf{{gone(7, 0, 999)}, {last}}, last, []int{0})
	repaired(t, shelf{{gone(7, 0, 999)}, {none}}, gone(7, 0, 999), nil)
	refused(t, shelf{{gone(7, 0, 1000)}, {last}}, 7, api.ErrClash)
}

// TestLacksByVersionAlone has caches that have what is newest but for its time, and those that have less.
func TestLacksByVersionAlone(t *testing.T) {
	l := shelf{{has(2, 6, 6, "b")}, {has(2, 5, 5, "a")}, {}, {has(2, 6, 9, "b")}, {gone(2, 0, 1), gone(3, 9, 9)}, {has(2, 6, 8, "b")}}
	lacks(t, l, 2, []int{1, 2, 4}, api.OK)
	lacks(t, l, 3, []int{0, 1, 2, 3, 5}, api.OK)
	repaired(t, l, has(2, 6, 9, "b"), []int{1, 2, 4})
	repaired(t, l, gone(3, 9, 9), []int{0, 1, 2, 3, 5})
}

func TestWriteWhereThereIsRoom(t *testing.T) {
	e := has(3, 9, 9, "b")
	writes(t, shelf{
		nil,
		{gone(2, 1, 1)},
		{gone(4, 1, 1)},
		{gone(2, 1, 1), gone(4, 1, 1)},
		{e},
		but(3),
	}, 3, shelf{
		{e},
		{gone(2, 1, 1), e},
		{e, gone(4, 1, 1)},
		{gone(2, 1, 1), e, gone(4, 1, 1)},
		{e},
		around(e),
	}, api.OK)
}

// TestOtherKeysCount for nothing, whatever is told of them: they may clash, and stay as they were.
func TestOtherKeysCount(t *testing.T) {
	l := shelf{{has(2, 5, 5, "a"), has(3, 1, 1, "x"), gone(4, 1, 9)}, {has(2, 5, 5, "b"), has(4, 2, 3, "c")}}
	repaired(t, l, has(3, 1, 1, "x"), []int{1})
	refused(t, l, 2, api.ErrClash)
	refused(t, l, 4, api.ErrClash)
	refused(t, l, 5, api.ErrNone)
}

// clashes are pairs of entries that no key can have had.
func clashes(key int) [][2]api.Entry {
	return [][2]api.Entry{
		{has(key, 5, 6, "a"), has(key, 5, 6, "b")},
		{has(key, 5, 9, "a"), has(key, 5, 6, "b")},
		{has(key, 5, 6, ""), gone(key, 5, 6)},
		{has(key, 5, 7, ""), gone(key, 5, 8)},
		{has(key, 5, 6, "a"), gone(key, 5, 6)},
		{has(key, 4, 5, "a"), has(key, 5, 6, "a")},
		{has(key, 4, 8, "a"), has(key, 5, 6, "b")},
		{gone(key, 4, 8), gone(key, 8, 8)},
	}
}

// TestTwoClash wherever they stand, either way round, the others without an entry of the key.
func TestTwoClash(t *testing.T) {
	for _, key := range []int{0, 3, 7} {
		for _, two := range clashes(key) {
			for n := 2; n <= api.Nodes; n++ {
				for i := range n {
					for _, j := range allBut(n, i) {
						l := slices.Repeat(shelf{but(key)}, n)
						l[i], l[j] = around(two[0]), around(two[1])
						refused(t, l, key, api.ErrClash)
					}
				}
			}
		}
	}
}

// TestTwoClashBesideOlderOnes has others with them, in each order, that clash with neither of the two.
func TestTwoClashBesideOlderOnes(t *testing.T) {
	for _, two := range clashes(3) {
		for _, third := range []api.Entry{gone(3, 0, 0), has(3, 1, 3, "x"), least(two[0]), least(two[1])} {
			orders(list{two[0], two[1], third}, func(l list) { refused(t, alone(l...), 3, api.ErrClash) })
			orders(list{two[0], two[1], third, third}, func(l list) { refused(t, amid(l...), 3, api.ErrClash) })
		}
	}
}

// least is an entry that is known at its Version alone.
func least(e api.Entry) api.Entry {
	e.AsOf = e.Version
	return e
}

// TestTwoClashAheadOfANewerOne has one that clashes with neither behind the two; all but the newest are joined then.
func TestTwoClashAheadOfANewerOne(t *testing.T) {
	newest := has(3, 20, 30, "x")
	for _, two := range clashes(3) {
		for i := range 4 {
			for j := range 4 {
				if i == j {
					continue
				}
				l := make(shelf, 4, 5)
				l[i], l[j] = list{two[0]}, list{two[1]}
				refused(t, append(l, list{newest}), 3, api.ErrClash)
			}
		}
	}
}

// TestTwoClashBehindANewerOne: one by one each is joined with the newest, and with it they do not clash; so the two are never held against each other.
func TestTwoClashBehindANewerOne(t *testing.T) {
	newest := has(3, 20, 30, "x")
	for _, two := range clashes(3) {
		repaired(t, alone(newest, two[0], two[1]), newest, []int{1, 2})
		repaired(t, alone(newest, two[1], two[0]), newest, []int{1, 2})
		repaired(t, alone(two[0], newest, two[1]), newest, []int{0, 2})
		repaired(t, alone(two[1], newest, two[0]), newest, []int{0, 2})
	}
}

// TestOneClashesWithTheNewest wherever it stands, amid those that do not.
func TestOneClashesWithTheNewest(t *testing.T) {
	orders(list{gone(3, 1, 2), has(3, 4, 7, "a"), has(3, 8, 9, "b"), has(3, 3, 8, "c")}, func(l list) {
		refused(t, alone(l...), 3, api.ErrClash)
	})
}

// wrong are caches with each of their faults.
func wrong() map[api.Errno][]list {
	return map[api.Errno][]list{
		api.ErrFull: {
			append(every(), has(7, 1, 2, "a")),
			append(every(), has(-1, 1, 2, "a")),
			make(list, 10_000),
			{has(3, 5, 7, strings.Repeat("z", api.MaxText+1))},
			{{Key: 3, Version: 5, AsOf: 7, Gone: true, Text: strings.Repeat("z", api.MaxText+1)}},
		},
		api.ErrRange: {
			{has(-1, 1, 2, "a")},
			{has(8, 1, 2, "a")},
			{has(math.MinInt, 1, 2, "a")},
			{has(3, -1, 2, "a")},
			{has(3, 2, 1, "a")},
			{gone(3, 5, 7), gone(4, 1, 1001)},
			{gone(3, 1001, 1001)},
			{gone(3, 5, 7), gone(-1, 1, 1)},
		},
		api.ErrShape: {
			{{Key: 3, Version: 5, AsOf: 7, Gone: true, Text: "a"}},
			{gone(3, 5, 7), gone(3, 5, 7)},
			{gone(4, 5, 7), gone(3, 5, 7)},
			{gone(0, 5, 7), gone(4, 5, 7), gone(3, 5, 7)},
		},
	}
}

// eachWrong goes over the caches that have a fault.
func eachWrong(do func(own list, want api.Errno)) {
	for want, some := range wrong() {
		for _, own := range some {
			do(own, want)
		}
	}
}

func TestNoCache(t *testing.T) {
	for _, key := range append([]int{0, 3, 7}, wrongKeys...) {
		refused(t, nil, key, api.ErrNone)
		refused(t, shelf{}, key, api.ErrNone)
		refused(t, shelf{every()}[:0], key, api.ErrNone)
	}
}

func TestTooManyCaches(t *testing.T) {
	for _, n := range []int{api.Nodes + 1, api.Nodes + 2, 100, 100_000} {
		for _, key := range append([]int{0, 3, 7}, wrongKeys...) {
			refused(t, make(shelf, n), key, api.ErrFull)
			refused(t, slices.Repeat(shelf{every()}, n), key, api.ErrFull)
		}
	}
	repaired(t, slices.Repeat(shelf{every()}, api.Nodes), every()[3], nil)
}

func TestTooManyCachesIsToldAheadOfWhatIsWrongWithOne(t *testing.T) {
	eachWrong(func(own list, _ api.Errno) {
		refused(t, slices.Repeat(shelf{own}, api.Nodes+1), 3, api.ErrFull)
		l := amid(has(3, 5, 6, "a"), has(3, 5, 6, "b"), gone(3, 1, 1), gone(3, 1, 1), gone(3, 1, 1), gone(3, 1, 1))
		refused(t, append(l, own), 3, api.ErrFull)
	})
}

// TestAWrongCache at each place of each row, the key right or wrong, there or not.
func TestAWrongCache(t *testing.T) {
	eachWrong(func(own list, want api.Errno) {
		for n := 1; n <= api.Nodes; n++ {
			for i := range n {
				for _, key := range []int{3, 5, -1, 8} {
					l := slices.Repeat(shelf{but(5)}, n)
					l[i] = own
					refused(t, l, key, want)
				}
			}
		}
	})
}

func TestTheFirstWrongCacheIsTold(t *testing.T) {
	eachWrong(func(first list, want api.Errno) {
		eachWrong(func(second list, _ api.Errno) {
			refused(t, shelf{first, second}, 3, want)
			refused(t, shelf{first, second}, -1, want)
			refused(t, shelf{every(), first, nil, second, every()}, 3, want)
		})
	})
}

func TestAWrongCacheIsToldAheadOfAClash(t *testing.T) {
	eachWrong(func(own list, want api.Errno) {
		for _, two := range clashes(3) {
			refused(t, shelf{{two[0]}, {two[1]}, own}, 3, want)
			refused(t, shelf{{two[0]}, own, {two[1]}}, 3, want)
			refused(t, shelf{own, {two[0]}, {two[1]}}, 3, want)
		}
	})
}

func TestAWrongKey(t *testing.T) {
	for _, key := range wrongKeys {
		for n := 1; n <= api.Nodes; n++ {
			refused(t, make(shelf, n), key, api.ErrRange)
			refused(t, slices.Repeat(shelf{every()}, n), key, api.ErrRange)
		}
		for _, two := range append(clashes(0), clashes(7)...) {
			refused(t, alone(two[0], two[1]), key, api.ErrRange)
		}
	}
}

// TestErrorsAreMarks: whatever Mark refuses, these refuse, and with the same error.
func TestErrorsAreMarks(t *testing.T) {
	rows := []shelf{nil, make(shelf, 7), {every()}, {nil, every()}}
	eachWrong(func(own list, _ api.Errno) { rows = append(rows, shelf{every(), own}, shelf{own}) })
	for _, l := range rows {
		for _, key := range append([]int{0, 3, 7}, wrongKeys...) {
			if _, err := tomb.Mark(l, key); err != nil {
				refused(t, l, key, plain.Told(err))
				continue
			}
			repaired(t, l, every()[key], allBut(len(l), len(l)-1))
		}
	}
}

// meetByChoices goes over each two choices, as sets of bits.
func meetByChoices(n, r, w int) bool {
	for a := range uint(1) << n {
		for b := range uint(1) << n {
			if bits.OnesCount(a) == r && bits.OnesCount(b) == w && a&b == 0 {
				return false
			}
		}
	}
	return true
}

// TestMeet for each three numbers from below their edges to above them.
func TestMeet(t *testing.T) {
	many := 0
	for n := -2; n <= api.Nodes+3; n++ {
		for r := -2; r <= api.Nodes+4; r++ {
			for w := -2; w <= api.Nodes+4; w++ {
				if n < 1 || n > api.Nodes || r < 0 || r > n || w < 0 || w > n {
					meets(t, n, r, w, false, api.ErrRange)
					continue
				}
				meets(t, n, r, w, meetByChoices(n, r, w), api.OK)
				many++
			}
		}
	}
	if many != 4+9+16+25+36+49 {
		t.Errorf("%d were in range", many)
	}
}

func TestMeetThatIsKnown(t *testing.T) {
	meets(t, 1, 1, 1, true, api.OK)
	meets(t, 1, 0, 1, false, api.OK)
	meets(t, 3, 2, 2, true, api.OK)
	meets(t, 3, 1, 2, false, api.OK)
	meets(t, 3, 1, 3, true, api.OK)
	meets(t, 6, 3, 3, false, api.OK)
	meets(t, 6, 3, 4, true, api.OK)
	meets(t, 6, 4, 3, true, api.OK)
	meets(t, 6, 6, 0, false, api.OK)
	meets(t, 6, 0, 0, false, api.OK)
}

func TestMeetOfFarNumbers(t *testing.T) {
	far := []int{math.MinInt, math.MinInt + 1, -1 << 32, 1 << 32, 1<<32 + 1, math.MaxInt - 1, math.MaxInt}
	for _, x := range far {
		for _, y := range append([]int{0, 1, 3}, far...) {
			for _, z := range append([]int{0, 1, 3}, far...) {
				meets(t, x, y, z, false, api.ErrRange)
				meets(t, y, x, z, false, api.ErrRange)
				meets(t, y, z, x, false, api.ErrRange)
			}
		}
	}
}

// byRule tells the newest, by a rule of its own: each entry is held against the greatest Version, and the greatest AsOf of that, of those ahead of it.
func byRule(l shelf, key int) (api.Entry, []int, api.Errno) {
	var all list
	for _, own := range l {
		for _, e := range own {
			if e.Key == key {
				all = append(all, e)
			}
		}
	}
	if len(all) == 0 {
		return api.Entry{}, nil, api.ErrNone
	}
	for i, e := range all[1:] {
		ahead := greatest(all[:i+1])
		switch {
		case e.Version == ahead.Version:
			if e.Gone != ahead.Gone || e.Text != ahead.Text {
				return api.Entry{}, nil, api.ErrClash
			}
		case e.Version < ahead.Version && e.AsOf >= ahead.Version, e.Version > ahead.Version && ahead.AsOf >= e.Version:
			return api.Entry{}, nil, api.ErrClash
		}
	}
	newest := greatest(all)
	var who []int
	for i, own := range l {
		if !slices.ContainsFunc(own, func(e api.Entry) bool { return e.Key == key && e.Version == newest.Version }) {
			who = append(who, i)
		}
	}
	return newest, who, api.OK
}

func greatest(l list) api.Entry {
	return slices.MaxFunc(l, func(a, b api.Entry) int { return a.Version*10_000 + a.AsOf - b.Version*10_000 - b.AsOf })
}

// isBy checks all three calls against the rule, and tells what it says.
func isBy(t *testing.T, l shelf, key int) api.Errno {
	t.Helper()
	newest, who, err := byRule(l, key)
	if err != api.OK {
		refused(t, l, key, err)
	} else {
		repaired(t, l, newest, who)
	}
	return err
}

// TestEachShortRow goes over each row of up to three caches with one of few entries, or none.
func TestEachShortRow(t *testing.T) {
	few := []list{nil}
	for version := range 4 {
		for asOf := version; asOf < 4; asOf++ {
			few = append(few, list{gone(3, version, asOf)}, list{has(3, version, asOf, "")}, list{has(3, version, asOf, "a")})
		}
	}
	for _, x := range few {
		isBy(t, shelf{x}, 3)
		for _, y := range few {
			isBy(t, shelf{x, y}, 3)
			for _, z := range few {
				isBy(t, shelf{x, y, z}, 3)
			}
		}
	}
}

// byChance is a cache of some keys, whose entries may clash with those of another one.
func byChance(r *rand.Rand, most int) list {
	var l list
	for key := range api.Keys {
		if r.IntN(4) == 0 {
			continue
		}
		version := r.IntN(most + 1)
		e := has(key, version, version+r.IntN(2), []string{"", "a"}[r.IntN(8)/7])
		if e.Text == "" && r.IntN(8) == 0 {
			e.Gone = true
		}
		l = append(l, e)
	}
	return l
}

func TestRowsByChance(t *testing.T) {
	r := rand.New(rand.NewPCG(17, 1))
	told := map[api.Errno]int{}
	for range 10_000 {
		most := []int{0, 3, 30, 900}[r.IntN(4)]
		var l shelf
		for range 1 + r.IntN(api.Nodes) {
			l = append(l, byChance(r, most))
		}
		for key := range api.Keys {
			told[isBy(t, l, key)]++
		}
	}
	for _, want := range []api.Errno{api.OK, api.ErrNone, api.ErrClash} {
		if told[want] < 1000 {
			t.Errorf("%v was told %d times alone", want, told[want])
		}
	}
}

// TestWhatAStoreTold has caches of what one store told at some time: they never clash, in no order, and what is read is what the last one to ask was told.
func TestWhatAStoreTold(t *testing.T) {
	r := rand.New(rand.NewPCG(17, 2))
	for range 300 {
		s := store.New()
		l := make(shelf, 1+r.IntN(api.Nodes))
		last := map[int]api.Entry{}
		for range 40 {
			key := r.IntN(api.Keys)
			if r.IntN(3) > 0 {
				if _, err := s.Put(key, "ab"[r.IntN(2):]); err != nil {
					t.Fatal(err)
				}
			} else if _, err := s.Delete(key); err != nil && plain.Told(err) != api.ErrNone {
				t.Fatal(err)
			}
			e, err := s.Read(r.IntN(api.Keys))
			if err != nil {
				t.Fatal(err)
			}
			i := r.IntN(len(l))
			l[i] = written(l[i], e)
			last[e.Key] = e
		}
		for key := range api.Keys {
			for range 4 {
				r.Shuffle(len(l), func(i, j int) { l[i], l[j] = l[j], l[i] })
				newest, who, told := byRule(l, key)
				switch {
				case last[key] == (api.Entry{}) && told == api.ErrNone:
					refused(t, l, key, told)
				case last[key] == newest && told == api.OK:
					repaired(t, l, newest, who)
				default:
					t.Errorf("key %d of %+v: the rule says %+v, %v; told last was %+v", key, l, newest, told, last[key])
				}
			}
		}
	}
}

// TestKeysOneByOne has each key written to all: then all caches are the same, and nothing was lost on the way.
func TestKeysOneByOne(t *testing.T) {
	l := shelf{{gone(0, 1, 1), has(3, 2, 2, "a")}, nil, {gone(0, 1, 9), has(5, 1, 1, "b")}, {has(3, 4, 4, "c"), gone(7, 0, 0)}}
	for _, key := range []int{7, 0, 5, 3} {
		all, err := repair.Write(l, key)
		if err != nil {
			t.Fatal(err)
		}
		l = all
	}
	want := list{gone(0, 1, 9), has(3, 4, 4, "c"), has(5, 1, 1, "b"), gone(7, 0, 0)}
	if !same(l, slices.Repeat(shelf{want}, 4)) {
		t.Errorf("got %+v, want each %+v", l, want)
	}
}

// rows are some that are right for key 3, with and without room for it.
func rows() []shelf {
	return []shelf{
		{every()},
		{every(), nil, but(3), every()},
		alone(gone(3, 1, 2), has(3, 4, 7, "a"), has(3, 4, 9, "a")),
		amid(gone(3, 1, 2), has(3, 4, 7, "a"), has(3, 4, 9, "a"), has(3, 4, 4, "a"), gone(3, 0, 0), gone(3, 1, 1)),
		{nil, nil, nil, nil, nil, {gone(3, 4, 5)}},
		{{gone(2, 1, 1), gone(4, 1, 1)}, {gone(2, 1, 1), gone(3, 1, 1), gone(4, 1, 1)}},
	}
}

// mark is an entry that stands behind the length of what is handed in, and is written over what is told.
var mark = has(-5, -5, -5, "spoilt")

// handed is a copy of a row in memory that goes on behind each length.
func handed(l shelf) shelf {
	roomy := make(shelf, 0, len(l)+2)
	for _, own := range l {
		own = append(append(make(list, 0, len(own)+3), own...), mark, mark, mark)
		roomy = append(roomy, own[:len(own)-3])
	}
	return append(roomy, list{mark}, list{mark})[:len(l)]
}

// stays checks that what was handed in is as it was made, and what lies behind each length too.
func stays(t *testing.T, given, made shelf) {
	t.Helper()
	if !same(given, made) {
		t.Errorf("what was handed in became %+v, was %+v", given, made)
	}
	for _, own := range given {
		for _, e := range own[:len(own)+3][len(own):] {
			if e != mark {
				t.Errorf("behind %+v there is %+v", own, e)
			}
		}
	}
	for _, own := range given[:len(given)+2][len(given):] {
		if !slices.Equal(own, list{mark}) {
			t.Errorf("behind all there is %+v", own)
		}
	}
}

// spoil writes into all of the memory of what Write told.
func spoil(all shelf) {
	all = all[:cap(all)]
	for i, own := range all {
		own = own[:cap(own)]
		for j := range own {
			own[j] = mark
		}
		all[i] = nil
	}
}

func TestWhatIsHandedInStays(t *testing.T) {
	for _, made := range append(rows(), alone(clashes(3)[0][0], clashes(3)[0][1]), shelf{but(3)}, shelf{{gone(4, 1, 1), gone(3, 1, 1)}}) {
		for _, key := range []int{3, 0, 7, -1, 8} {
			given := handed(made)
			newest, first := repair.Read(given, key)
			stays(t, given, made)
			who, second := repair.Lacks(given, key)
			stays(t, given, made)
			all, third := repair.Write(given, key)
			stays(t, given, made)
			if plain.Told(first) != plain.Told(second) || plain.Told(second) != plain.Told(third) {
				t.Errorf("%+v, %d: told %v, %v, %v", made, key, first, second, third)
			}
			want, err := repair.Write(made, key)
			if !same(all, want) || plain.Told(err) != plain.Told(third) {
				t.Errorf("%+v, %d: told %+v, without room behind it %+v", made, key, all, want)
			}
			for i := range who[:cap(who)] {
				who[:cap(who)][i] = -5
			}
			spoil(all)
			stays(t, given, made)
			reads(t, given, key, newest, plain.Told(first))
		}
	}
}

// TestWhatWriteToldIsTheCallers spoils one cache of it: neither the others nor another answer may feel it, nor it what becomes of the row.
func TestWhatWriteToldIsTheCallers(t *testing.T) {
	for _, made := range rows() {
		want, err := repair.Write(made, 3)
		if err != nil {
			t.Fatal(err)
		}
		for i := range made {
			given := handed(made)
			first, _ := repair.Write(given, 3)
			second, _ := repair.Write(given, 3)
			spoil(first[i : i+1 : i+1])
			for j := range first {
				if j != i && !slices.Equal(first[j], want[j]) {
					t.Errorf("%+v: with cache %d spoilt cache %d is %+v", made, i, j, first[j])
				}
			}
			spoil(given)
			if !same(second, want) {
				t.Errorf("%+v: another answer became %+v, was %+v", made, second, want)
			}
		}
	}
}

// TestLacksIsTheCallers spoils one answer: another one may not feel it.
func TestLacksIsTheCallers(t *testing.T) {
	l := shelf{nil, {gone(3, 1, 1)}, nil}
	first, _ := repair.Lacks(l, 3)
	second, _ := repair.Lacks(l, 3)
	first = first[:cap(first)]
	for i := range first {
		first[i] = -5
	}
	if !slices.Equal(second, []int{0, 2}) {
		t.Errorf("another answer became %v", second)
	}
	lacks(t, l, 3, []int{0, 2}, api.OK)
}

// TestOneCacheManyTimes hands in one memory at each place: each answer has its own.
func TestOneCacheManyTimes(t *testing.T) {
	for _, own := range []list{every(), {gone(3, 1, 1)}, {gone(2, 1, 1), gone(3, 1, 1)}} {
		for n := 1; n <= api.Nodes; n++ {
			all, err := repair.Write(slices.Repeat(shelf{own}, n), 3)
			if err != nil {
				t.Fatal(err)
			}
			want := slices.Clone(own)
			for i := range all {
				if !slices.Equal(all[i], want) {
					t.Errorf("cache %d of %d is %+v, want %+v", i, n, all[i], want)
				}
				spoil(all[i : i+1 : i+1])
			}
			if !slices.Equal(own, want) {
				t.Errorf("what was handed in became %+v", own)
			}
		}
	}
}

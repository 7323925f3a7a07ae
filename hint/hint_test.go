package hint_test

import (
	"math"
	"math/rand/v2"
	"slices"
	"testing"

	"beaconmere/api"
	"beaconmere/hint"
	"beaconmere/plain"
)

type hints = []api.Hint

var wrongNodes = []int{-1, 6, 7, -6, 255, 256, 1 << 32, math.MinInt, math.MaxInt}

var wrongKeys = []int{-1, 8, 9, -8, 255, 256, 1 << 32, math.MinInt, math.MaxInt}

var wrongVersions = []int{0, -1, 1001, 1002, -1000, 1 << 32, 1<<32 + 1, math.MinInt, math.MaxInt}

func one(node, key, version int) api.Hint {
	return api.Hint{Node: node, Key: key, Version: version}
}

// numbered is the n-th of 48 hints, no two of which are of the same node and key.
func numbered(n int) api.Hint {
	return one(n%api.Nodes, n/api.Nodes%api.Keys, 500+n)
}

// those are the numbered hints from one up to ahead of another one.
func those(from, to int) hints {
	var all hints
	for n := from; n < to; n++ {
		all = append(all, numbered(n))
	}
	return all
}

// without is a copy of hints in which one is left out.
func without(all hints, i int) hints { return slices.Delete(slices.Clone(all), i, i+1) }

// with is a copy of hints behind which there are some more.
func with(all hints, more ...api.Hint) hints { return append(slices.Clone(all), more...) }

// of are the hints of a node, or all others.
func of(all hints, node int, is bool) hints {
	var some hints
	for _, x := range all {
		if (x.Node == node) == is {
			some = append(some, x)
		}
	}
	return some
}

// other is the hint with another version.
func other(x api.Hint, version int) api.Hint {
	x.Version = version
	return x
}

func has(t *testing.T, h *hint.Hints, want hints, wantLost int) {
	t.Helper()
	if all := h.All(); !slices.Equal(all, want) {
		t.Errorf("All: got %v, want %v", all, want)
	}
	if n := h.Lost(); n != wantLost {
		t.Errorf("Lost: got %d, want %d", n, wantLost)
	}
}

func adds(t *testing.T, h *hint.Hints, x api.Hint, want api.Errno) {
	t.Helper()
	if err := h.Add(x); plain.Told(err) != want {
		t.Errorf("Add(%+v): got %v, want %v", x, err, want)
	}
}

func takes(t *testing.T, h *hint.Hints, node int, wantL hints, want api.Errno) {
	t.Helper()
	if l, err := h.Take(node); !slices.Equal(l, wantL) || plain.Told(err) != want {
		t.Errorf("Take(%d): got %v, %v, want %v, %v", node, l, err, wantL, want)
	}
}

// holding makes one with such hints, at most MaxHints and each of another node or key, none lost.
func holding(t *testing.T, all hints) *hint.Hints {
	t.Helper()
	h := hint.New()
	for i, x := range all {
		adds(t, h, x, api.OK)
		has(t, h, all[:i+1], 0)
	}
	return h
}

func TestANewOneHasNone(t *testing.T) {
	h := hint.New()
	has(t, h, nil, 0)
	for node := range api.Nodes {
		takes(t, h, node, nil, api.OK)
		has(t, h, nil, 0)
	}
}

func TestEachHintThatMayBe(t *testing.T) {
	for node := range 6 {
		for key := range 8 {
			for _, version := range []int{1, 2, 500, 999, 1000} {
				x := one(node, key, version)
				has(t, holding(t, hints{x}), hints{x}, 0)
			}
		}
	}
}

func TestAddedOnesAreBehindAll(t *testing.T) {
	for many := range 11 {
		for from := range 20 {
			all := those(from, from+many)
			has(t, holding(t, all), all, 0)
			slices.Reverse(all)
			has(t, holding(t, all), all, 0)
		}
	}
}

// TestOrderIsThatOfAdding has hints whose nodes, keys and versions neither rise nor fall.
func TestOrderIsThatOfAdding(t *testing.T) {
	all := hints{one(3, 4, 7), one(0, 7, 1000), one(5, 0, 1), one(3, 1, 9), one(0, 2, 1), one(5, 7, 3), one(3, 6, 7)}
	has(t, holding(t, all), all, 0)
}

// TestOneThatIsNotOlder has a greater version, or the same one, take the place of each of some, wherever it stands.
func TestOneThatIsNotOlder(t *testing.T) {
	for many := 1; many <= 10; many++ {
		all := those(3, 3+many)
		for i, x := range all {
			for _, version := range []int{x.Version, x.Version + 1, x.Version + 100, 1000} {
				h := holding(t, all)
				newer := other(x, version)
				want := with(without(all, i), newer)
				for range 2 {
					adds(t, h, newer, api.OK)
					has(t, h, want, 0)
				}
			}
		}
	}
}

func TestOneThatIsOlder(t *testing.T) {
	for many := 1; many <= 10; many++ {
		all := those(3, 3+many)
		for _, x := range all {
			h := holding(t, all)
			for _, version := range []int{x.Version - 1, x.Version - 100, 2, 1} {
				adds(t, h, other(x, version), api.OK)
				has(t, h, all, 0)
			}
		}
	}
}

func TestVersionsAtTheirEdges(t *testing.T) {
	least, most := one(2, 3, 1), one(2, 3, 1000)
	beside := one(2, 4, 5)
	h := holding(t, hints{least, beside})
	adds(t, h, least, api.OK)
	has(t, h, hints{beside, least}, 0)
	adds(t, h, most, api.OK)
	has(t, h, hints{beside, most}, 0)
	adds(t, h, beside, api.OK)
	adds(t, h, least, api.OK)
	adds(t, h, other(most, 999), api.OK)
	has(t, h, hints{most, beside}, 0)
	adds(t, h, most, api.OK)
	has(t, h, hints{beside, most}, 0)
}

// TestOnlyTheSameNodeAndKey has hints that share a node, or a key, or have them the other way round.
func TestOnlyTheSameNodeAndKey(t *testing.T) {
	all := hints{one(2, 3, 5), one(2, 4, 5), one(1, 3, 5), one(3, 2, 5), one(2, 2, 5), one(3, 3, 5), one(4, 1, 5)}
	for i, x := range all {
		for _, version := range []int{5, 6} {
			h := holding(t, all)
			adds(t, h, other(x, version), api.OK)
			has(t, h, with(without(all, i), other(x, version)), 0)
		}
		h := holding(t, all)
		adds(t, h, other(x, 4), api.OK)
		has(t, h, all, 0)
	}
}

// TestOfEachNodeAndKey holds each two against each other: just those that are of the same go for one.
func TestOfEachNodeAndKey(t *testing.T) {
	for n := range 48 {
		for m := range 48 {
			a, b := other(numbered(n), 7), other(numbered(m), 8)
			h := holding(t, hints{a})
			adds(t, h, b, api.OK)
			adds(t, h, a, api.OK)
			if n == m {
				has(t, h, hints{b}, 0)
			} else {
				has(t, h, hints{b, a}, 0)
			}
		}
	}
}

func TestMoreThanMaxHints(t *testing.T) {
	h := holding(t, those(0, 10))
	for n := 10; n < 48; n++ {
		adds(t, h, numbered(n), api.OK)
		has(t, h, those(n-9, n+1), n-9)
	}
	for node := range api.Nodes {
		takes(t, h, node, of(those(38, 48), node, true), api.OK)
	}
	has(t, h, nil, 38)
}

// TestOneOfTheSameAtMaxHints has each of MaxHints be added again, as an older, the same and a newer one: none is lost.
func TestOneOfTheSameAtMaxHints(t *testing.T) {
	for i, x := range those(0, 10) {
		for _, version := range []int{x.Version, x.Version + 1} {
			h := holding(t, those(0, 10))
			want := with(without(those(0, 10), i), other(x, version))
			adds(t, h, other(x, x.Version-1), api.OK)
			has(t, h, those(0, 10), 0)
			adds(t, h, other(x, version), api.OK)
			has(t, h, want, 0)
			adds(t, h, numbered(10), api.OK)
			has(t, h, with(want[1:], numbered(10)), 1)
		}
	}
}

// TestWhatWasLostCountsNoMore has the one that was lost come back as an older one: there is none to hold it back.
func TestWhatWasLostCountsNoMore(t *testing.T) {
	h := holding(t, those(0, 10))
	adds(t, h, numbered(10), api.OK)
	back := other(numbered(0), 1)
	adds(t, h, back, api.OK)
	has(t, h, with(those(2, 11), back), 2)
	takes(t, h, 0, hints{numbered(6), back}, api.OK)
	takes(t, h, 1, hints{numbered(7)}, api.OK)
	has(t, h, hints{numbered(2), numbered(3), numbered(4), numbered(5), numbered(8), numbered(9), numbered(10)}, 2)
}

func TestLostGoesOn(t *testing.T) {
	h := hint.New()
	for n := range 1000 {
		adds(t, h, numbered(n%48), api.OK)
		if want := max(0, n-9); h.Lost() != want {
			t.Fatalf("Lost behind %d: got %d, want %d", n+1, h.Lost(), want)
		}
	}
	if len(h.All()) != 10 {
		t.Errorf("All: got %v", h.All())
	}
}

// TestWhereSomeWereTakenThereIsRoom has what is taken not be lost, and more come in its place.
func TestWhereSomeWereTakenThereIsRoom(t *testing.T) {
	h := holding(t, those(0, 10))
	takes(t, h, 1, hints{numbered(1), numbered(7)}, api.OK)
	left := of(those(0, 10), 1, false)
	has(t, h, left, 0)
	adds(t, h, numbered(10), api.OK)
	adds(t, h, numbered(11), api.OK)
	has(t, h, with(left, those(10, 12)...), 0)
	adds(t, h, numbered(12), api.OK)
	has(t, h, with(left[1:], those(10, 13)...), 1)
}

// wrong are hints with each fault alone, and all faults together in each way.
func wrong() hints {
	var all hints
	for _, node := range append([]int{0, 2, 5}, wrongNodes...) {
		for _, key := range append([]int{0, 3, 7}, wrongKeys...) {
			for _, version := range append([]int{1, 501, 1000}, wrongVersions...) {
				if slices.Contains(wrongNodes, node) || slices.Contains(wrongKeys, key) || slices.Contains(wrongVersions, version) {
					all = append(all, one(node, key, version))
				}
			}
		}
	}
	return all
}

// TestAddIsRefused has nothing change: also where there are none, where there are MaxHints, and where some were lost.
func TestAddIsRefused(t *testing.T) {
	for _, many := range []int{0, 1, 9, 10} {
		h := holding(t, those(0, many))
		for _, x := range wrong() {
			adds(t, h, x, api.ErrRange)
			has(t, h, those(0, many), 0)
		}
	}
	h := holding(t, those(0, 10))
	adds(t, h, numbered(10), api.OK)
	for _, x := range wrong() {
		adds(t, h, x, api.ErrRange)
		has(t, h, those(1, 11), 1)
	}
}

// TestAddOfAWrongVersionOfOneThatIsThere has neither a version that is too great nor one that is too small count.
func TestAddOfAWrongVersionOfOneThatIsThere(t *testing.T) {
	for _, x := range those(0, 10) {
		h := holding(t, those(0, 10))
		for _, version := range wrongVersions {
			adds(t, h, other(x, version), api.ErrRange)
			has(t, h, those(0, 10), 0)
		}
	}
}

// TestTakeOfEachRow goes over all rows of five hints of three nodes: a node has none, one, some or all of them.
func TestTakeOfEachRow(t *testing.T) {
	for n := range 3 * 3 * 3 * 3 * 3 {
		var all hints
		for key := range 5 {
			all = append(all, one(n%3*2, key, 9-key))
			n /= 3
		}
		for node := range api.Nodes {
			h := holding(t, all)
			takes(t, h, node, of(all, node, true), api.OK)
			has(t, h, of(all, node, false), 0)
			takes(t, h, node, nil, api.OK)
			has(t, h, of(all, node, false), 0)
		}
	}
}

func TestTakeOfAllByOneNode(t *testing.T) {
	var all hints
	for key := range api.Keys {
		all = append(all, one(5, 7-key, 1+key*3%8))
	}
	h := holding(t, all)
	takes(t, h, 4, nil, api.OK)
	has(t, h, all, 0)
	takes(t, h, 5, all, api.OK)
	has(t, h, nil, 0)
	takes(t, h, 5, nil, api.OK)
	has(t, h, nil, 0)
}

// TestWhatWasTakenCountsNoMore has one that was taken hold back no older one.
func TestWhatWasTakenCountsNoMore(t *testing.T) {
	x := one(2, 3, 900)
	h := holding(t, hints{x, one(3, 3, 900)})
	takes(t, h, 2, hints{x}, api.OK)
	adds(t, h, other(x, 1), api.OK)
	has(t, h, hints{one(3, 3, 900), one(2, 3, 1)}, 0)
	takes(t, h, 2, hints{one(2, 3, 1)}, api.OK)
	has(t, h, hints{one(3, 3, 900)}, 0)
}

// TestWhatWasReplacedIsNotTaken has a node's hints come in the order in which they stand by now.
func TestWhatWasReplacedIsNotTaken(t *testing.T) {
	h := holding(t, hints{one(2, 3, 5), one(2, 4, 5), one(1, 3, 5)})
	adds(t, h, one(2, 3, 6), api.OK)
	adds(t, h, one(2, 4, 4), api.OK)
	takes(t, h, 2, hints{one(2, 4, 5), one(2, 3, 6)}, api.OK)
	has(t, h, hints{one(1, 3, 5)}, 0)
}

func TestTakeIsRefused(t *testing.T) {
	for _, many := range []int{0, 1, 9, 10, 13} {
		h, want := hint.New(), those(max(0, many-10), many)
		for _, x := range those(0, many) {
			adds(t, h, x, api.OK)
		}
		for _, node := range wrongNodes {
			takes(t, h, node, nil, api.ErrRange)
			has(t, h, want, max(0, many-10))
		}
	}
}

func TestTwoShareNothing(t *testing.T) {
	a, b := hint.New(), hint.New()
	for n := range 12 {
		adds(t, a, numbered(n), api.OK)
		has(t, b, nil, 0)
	}
	adds(t, b, other(numbered(5), 1), api.OK)
	adds(t, b, other(numbered(20), 1), api.OK)
	has(t, a, those(2, 12), 2)
	takes(t, b, 5, hints{other(numbered(5), 1)}, api.OK)
	has(t, a, those(2, 12), 2)
	takes(t, a, 2, hints{numbered(2), numbered(8)}, api.OK)
	has(t, b, hints{other(numbered(20), 1)}, 0)
}

// spoil writes into all of a list's memory.
func spoil(l hints) {
	l = l[:cap(l)]
	for i := range l {
		l[i] = one(-5, -5, -5)
	}
}

// TestWhatWasToldIsTheCallers spoils each answer, as far as its memory goes: neither what is there nor another answer may feel it.
func TestWhatWasToldIsTheCallers(t *testing.T) {
	for many := range 11 {
		all := those(0, many)
		for node := range api.Nodes {
			h := holding(t, all)
			spoil(h.All())
			has(t, h, all, 0)
			first, second := h.All(), h.All()
			spoil(first)
			if !slices.Equal(second, all) {
				t.Errorf("All: two answers share memory: %v", second)
			}
			has(t, h, all, 0)
			taken, err := h.Take(node)
			if err != nil {
				t.Fatal(err)
			}
			left := h.All()
			spoil(taken)
			if !slices.Equal(second, all) || !slices.Equal(left, of(all, node, false)) {
				t.Errorf("All and Take share memory: %v, %v", second, left)
			}
			has(t, h, of(all, node, false), 0)
			adds(t, h, numbered(40), api.OK)
			spoil(left)
			spoil(second)
			want := with(of(all, node, false), numbered(40))
			has(t, h, want[max(0, len(want)-10):], max(0, len(want)-10))
		}
	}
}

// TestWhatWasToldStays keeps all answers of a long play, with memory behind their length, and holds them against what they were.
func TestWhatWasToldStays(t *testing.T) {
	r := rand.New(rand.NewPCG(16, 1))
	for range 50 {
		h := hint.New()
		var told, were []hints
		for range 60 {
			adds(t, h, byChance(r, 48), api.OK)
			answers := []hints{h.All()}
			if r.IntN(6) == 0 {
				taken, err := h.Take(r.IntN(6))
				if err != nil {
					t.Fatal(err)
				}
				answers = append(answers, taken, h.All())
			}
			for _, l := range answers {
				l = l[:cap(l)]
				told, were = append(told, l), append(were, slices.Clone(l))
			}
		}
		for i, l := range told {
			if !slices.Equal(l, were[i]) {
				t.Fatalf("what was told as %v became %v", were[i], l)
			}
		}
	}
}

// byChance is a right hint of one of so many nodes and keys.
func byChance(r *rand.Rand, many int) api.Hint {
	x := numbered(r.IntN(many))
	x.Version = []int{1, 2, 3, 4, 999, 1000}[r.IntN(6)]
	return x
}

// model has hints by other means: for each node and key a version and when it was added, of none 0.
type model struct {
	version, when [6][8]int
	now, lost     int
}

// first is the one that was added first, and how many there are.
func (o *model) first() (node, key, many int) {
	for i, row := range o.when {
		for j, when := range row {
			if when == 0 {
				continue
			}
			if many == 0 || when < o.when[node][key] {
				node, key = i, j
			}
			many++
		}
	}
	return node, key, many
}

func (o *model) add(x api.Hint) api.Errno {
	if x.Node < 0 || x.Node > 5 || x.Key < 0 || x.Key > 7 || x.Version < 1 || x.Version > 1000 {
		return api.ErrRange
	}
	if o.version[x.Node][x.Key] > x.Version {
		return api.OK
	}
	o.now++
	o.version[x.Node][x.Key], o.when[x.Node][x.Key] = x.Version, o.now
	if node, key, many := o.first(); many > 10 {
		o.version[node][key], o.when[node][key] = 0, 0
		o.lost++
	}
	return api.OK
}

func (o *model) take(node int) (hints, api.Errno) {
	if node < 0 || node > 5 {
		return nil, api.ErrRange
	}
	taken := of(o.all(), node, true)
	o.version[node], o.when[node] = [8]int{}, [8]int{}
	return taken, api.OK
}

// all takes the first, again and again, out of a copy.
func (o *model) all() hints {
	var all hints
	left := *o
	for {
		node, key, many := left.first()
		if many == 0 {
			return all
		}
		all = append(all, one(node, key, left.version[node][key]))
		left.when[node][key] = 0
	}
}

// play has a call by chance go as the model has it.
func play(t *testing.T, r *rand.Rand, h *hint.Hints, o *model, many int) {
	t.Helper()
	switch r.IntN(12) {
	case 0:
		node := r.IntN(8) - 1
		l, e := o.take(node)
		takes(t, h, node, l, e)
	case 1:
		all := wrong()
		x := all[r.IntN(len(all))]
		adds(t, h, x, o.add(x))
	default:
		x := byChance(r, many)
		adds(t, h, x, o.add(x))
	}
	has(t, h, o.all(), o.lost)
}

func TestPlaysByChance(t *testing.T) {
	r := rand.New(rand.NewPCG(16, 2))
	for _, many := range []int{2, 8, 11, 12, 20, 48} {
		for range 20 {
			h, o := hint.New(), &model{}
			for range 80 {
				play(t, r, h, o, many)
			}
			if t.Failed() {
				return
			}
		}
	}
}

// TestEachShortPlay has each row of five calls on few hints go as the model has it.
func TestEachShortPlay(t *testing.T) {
	steps := []func(*hint.Hints, *model){}
	for _, x := range []api.Hint{one(1, 2, 4), one(1, 2, 5), one(1, 3, 4), one(2, 2, 4), one(2, 2, 3), one(6, 2, 9)} {
		steps = append(steps, func(h *hint.Hints, o *model) { adds(t, h, x, o.add(x)) })
	}
	for _, node := range []int{1, 2, 6} {
		steps = append(steps, func(h *hint.Hints, o *model) {
			l, e := o.take(node)
			takes(t, h, node, l, e)
		})
	}
	rows := 1
	for range 5 {
		rows *= len(steps)
	}
	for n := range rows {
		h, o := hint.New(), &model{}
		for range 5 {
			steps[n%len(steps)](h, o)
			has(t, h, o.all(), o.lost)
			n /= len(steps)
		}
		if t.Failed() {
			return
		}
	}
}

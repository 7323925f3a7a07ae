package view_test

import (
	"math"
	"math/rand/v2"
	"slices"
	"testing"

	"beaconmere/api"
	"beaconmere/plain"
	"beaconmere/view"
)

type members = []api.Member

var wrongNodes = []int{-1, 6, 7, -6, 255, 256, 1 << 32, math.MinInt, math.MaxInt}

var wrongLives = []int{-1, 101, 102, -100, 256, 1 << 32, math.MinInt, math.MaxInt}

var wrongStates = []int{-1, 3, 4, -2, 256, 1 << 32, math.MinInt, math.MaxInt}

func member(node, life, state int) api.Member {
	return api.Member{Node: node, Life: life, State: state}
}

func alive(node, life int) api.Member { return member(node, life, 0) }

func suspect(node, life int) api.Member { return member(node, life, 1) }

func dead(node, life int) api.Member { return member(node, life, 2) }

// notAlive is what a node of a Life can be, but for Alive.
func notAlive(node, life int) members { return members{suspect(node, life), dead(node, life)} }

// some is a view with room ahead of its nodes, between them and behind them.
func some() members { return members{suspect(1, 7), alive(3, 0), dead(4, 99)} }

// every is a view with all nodes.
func every() members {
	return members{alive(0, 0), suspect(1, 1), dead(2, 2), alive(3, 50), suspect(4, 99), dead(5, 100)}
}

// with is a copy of a view in which one member is another one.
func with(l members, i int, m api.Member) members {
	l = slices.Clone(l)
	l[i] = m
	return l
}

// without is a copy of a view in which one member is not there.
func without(l members, i int) members { return slices.Delete(slices.Clone(l), i, i+1) }

// notRight are members with a fault each, the edges among them; the last ones have several.
func notRight() members {
	var l members
	for _, node := range wrongNodes {
		l = append(l, alive(node, 0), dead(node, 100))
	}
	for _, life := range wrongLives {
		l = append(l, alive(0, life), suspect(3, life), dead(5, life))
	}
	for _, state := range wrongStates {
		l = append(l, member(0, 0, state), member(3, 50, state), member(5, 100, state))
	}
	return append(l, member(-1, -1, -1), member(6, 101, 3), member(math.MinInt, math.MaxInt, math.MinInt))
}

func newerIs(t *testing.T, a, b api.Member, want bool, wantErr api.Errno) {
	t.Helper()
	if is, err := view.Newer(a, b); is != want || plain.Told(err) != wantErr {
		t.Errorf("Newer(%v, %v): got %v, %v, want %v, %v", a, b, is, err, want, wantErr)
	}
}

func adds(t *testing.T, l members, m api.Member, want members, wantIs bool, wantErr api.Errno) {
	t.Helper()
	got, is, err := view.Add(l, m)
	if !slices.Equal(got, want) || is != wantIs || plain.Told(err) != wantErr {
		t.Errorf("Add(%v, %v): got %v, %v, %v, want %v, %v, %v", l, m, got, is, err, want, wantIs, wantErr)
	}
}

func both(t *testing.T, a, b, want members, wantErr api.Errno) {
	t.Helper()
	if l, err := view.Both(a, b); !slices.Equal(l, want) || plain.Told(err) != wantErr {
		t.Errorf("Both(%v, %v): got %v, %v, want %v, %v", a, b, l, err, want, wantErr)
	}
}

// bothEitherWay checks Both views where it does not count which one comes first.
func bothEitherWay(t *testing.T, a, b, want members, wantErr api.Errno) {
	t.Helper()
	both(t, a, b, want, wantErr)
	both(t, b, a, want, wantErr)
}

func answers(t *testing.T, l members, node int, want members, wantErr api.Errno) {
	t.Helper()
	if got, err := view.Answer(l, node); !slices.Equal(got, want) || plain.Told(err) != wantErr {
		t.Errorf("Answer(%v, %d): got %v, %v, want %v, %v", l, node, got, err, want, wantErr)
	}
}

// right are views with nothing wrong, the edges among them.
var right = []members{
	nil,
	{},
	{{}},
	{alive(0, 100)},
	{dead(5, 0)},
	{dead(5, 100)},
	{dead(0, 100), alive(1, 0)},
	{alive(0, 0), dead(5, 100)},
	{suspect(4, 9), suspect(5, 9)},
	some(),
	every(),
}

// wrong are views with their faults; where several apply, the one that is told.
var wrong = []struct {
	l    members
	want api.Errno
}{
	{append(every(), alive(5, 0)), api.ErrFull},
	{append(every(), alive(6, 0)), api.ErrFull},
	{append(members{alive(-1, 0)}, every()...), api.ErrFull},
	{make(members, 7), api.ErrFull},
	{make(members, 100_000), api.ErrFull},
	{slices.Repeat(members{member(6, 101, 3)}, 7), api.ErrFull},

	{members{alive(-1, 0)}, api.ErrRange},
	{members{alive(6, 0)}, api.ErrRange},
	{members{alive(0, -1)}, api.ErrRange},
	{members{alive(0, 101)}, api.ErrRange},
	{members{member(0, 0, -1)}, api.ErrRange},
	{members{member(0, 0, 3)}, api.ErrRange},
	{members{alive(math.MinInt, 0), alive(math.MaxInt, 0)}, api.ErrRange},
	{with(every(), 0, alive(-1, 0)), api.ErrRange},
	{with(every(), 5, alive(6, 0)), api.ErrRange},
	{with(every(), 0, member(0, 0, 3)), api.ErrRange},
	{with(every(), 3, suspect(3, 101)), api.ErrRange},
	{with(every(), 5, dead(5, -1)), api.ErrRange},

	{members{alive(3, 0), alive(3, 0)}, api.ErrShape},
	{members{alive(0, 0), dead(0, 1)}, api.ErrShape},
	{members{dead(5, 1), alive(5, 0)}, api.ErrShape},
	{members{alive(4, 0), alive(3, 0)}, api.ErrShape},
	{members{alive(5, 0), alive(0, 0)}, api.ErrShape},
	{members{alive(0, 5), alive(2, 4), alive(1, 6)}, api.ErrShape},
	{members{alive(0, 0), alive(1, 0), alive(2, 0), alive(0, 0)}, api.ErrShape},
	{with(every(), 5, alive(4, 99)), api.ErrShape},
	{with(every(), 0, alive(1, 0)), api.ErrShape},
	{make(members, 2), api.ErrShape},
	{make(members, 6), api.ErrShape},

	// Of several members with a fault the first one counts, and of its faults that it is not right.
	{members{alive(3, 0), alive(3, 0), alive(6, 0)}, api.ErrShape},
	{members{alive(3, 0), alive(2, 0), alive(4, 101)}, api.ErrShape},
	{members{alive(3, 0), alive(4, 101), alive(2, 0)}, api.ErrRange},
	{members{member(3, 0, 3), alive(2, 0), alive(1, 0)}, api.ErrRange},
	{members{alive(3, 0), alive(-1, 0)}, api.ErrRange},
	{members{alive(3, 0), alive(2, 101)}, api.ErrRange},
	{members{alive(3, 0), member(3, 0, -1)}, api.ErrRange},
}

// newerByRule goes over all that a member can be, from the oldest on, and tells whether it comes by b first, and later by a.
func newerByRule(a, b api.Member) bool {
	found := false
	for life := range api.MaxLife + 1 {
		for state := range 3 {
			is := member(a.Node, life, state)
			if found && is == a {
				return true
			}
			found = found || is == b
		}
	}
	return false
}

// lives are those at the edges, and some between, two next to each other among them.
var lives = []int{0, 1, 2, 50, 99, 100}

func TestNewer(t *testing.T) {
	for node := range api.Nodes {
		newerIs(t, alive(node, 1), dead(node, 0), true, api.OK)
		newerIs(t, dead(node, 0), alive(node, 1), false, api.OK)
		newerIs(t, alive(node, 100), dead(node, 99), true, api.OK)
		newerIs(t, dead(node, 0), alive(node, 100), false, api.OK)
		for _, life := range lives {
			newerIs(t, suspect(node, life), alive(node, life), true, api.OK)
			newerIs(t, dead(node, life), suspect(node, life), true, api.OK)
			newerIs(t, dead(node, life), alive(node, life), true, api.OK)
			newerIs(t, alive(node, life), suspect(node, life), false, api.OK)
			newerIs(t, suspect(node, life), dead(node, life), false, api.OK)
			newerIs(t, alive(node, life), dead(node, life), false, api.OK)
		}
	}
}

// TestNewerOfAll has each two that can be of a node.
func TestNewerOfAll(t *testing.T) {
	var all members
	for life := range api.MaxLife + 1 {
		for state := range 3 {
			all = append(all, member(2, life, state))
		}
	}
	for i, a := range all {
		for j, b := range all {
			newerIs(t, a, b, i > j, api.OK)
		}
	}
}

func TestIsRight(t *testing.T) {
	for node := range api.Nodes {
		for life := range api.MaxLife + 1 {
			for state := range 3 {
				if m := member(node, life, state); !view.IsRight(m) {
					t.Errorf("IsRight(%v): got false", m)
				}
			}
		}
	}
	for _, m := range notRight() {
		if view.IsRight(m) {
			t.Errorf("IsRight(%v): got true", m)
		}
	}
}

func TestNeitherOfTwoThatAreTheSameIsNewer(t *testing.T) {
	for node := range api.Nodes {
		for _, life := range lives {
			for state := range 3 {
				newerIs(t, member(node, life, state), member(node, life, state), false, api.OK)
			}
		}
	}
}

// TestNewerOfOneThatIsNotRight also has it where both are not, and where they are not of one node.
func TestNewerOfOneThatIsNotRight(t *testing.T) {
	for _, m := range notRight() {
		newerIs(t, m, m, false, api.ErrRange)
		newerIs(t, m, alive(m.Node, 0), false, api.ErrRange)
		newerIs(t, dead(m.Node, 100), m, false, api.ErrRange)
		for node := range api.Nodes {
			newerIs(t, m, alive(node, 0), false, api.ErrRange)
			newerIs(t, dead(node, 100), m, false, api.ErrRange)
		}
	}
}

func TestNewerOfTwoNodes(t *testing.T) {
	for a := range api.Nodes {
		for b := range api.Nodes {
			if a != b {
				newerIs(t, alive(a, 0), alive(b, 0), false, api.ErrShape)
				newerIs(t, dead(a, 100), alive(b, 0), false, api.ErrShape)
				newerIs(t, alive(a, 0), dead(b, 100), false, api.ErrShape)
			}
		}
	}
}

func TestNothingIsWrong(t *testing.T) {
	for _, l := range right {
		bothEitherWay(t, l, nil, l, api.OK)
		both(t, l, l, l, api.OK)
		for _, m := range l {
			adds(t, l, m, l, false, api.OK)
		}
	}
}

// TestWhatIsWrong also has it beside all else that may be wrong.
func TestWhatIsWrong(t *testing.T) {
	for _, w := range wrong {
		adds(t, w.l, dead(3, 100), nil, false, w.want)
		for _, m := range notRight() {
			adds(t, w.l, m, nil, false, w.want)
		}
		for node := range api.Nodes {
			answers(t, w.l, node, nil, w.want)
		}
		for _, node := range wrongNodes {
			answers(t, w.l, node, nil, w.want)
		}
		for _, l := range right {
			bothEitherWay(t, w.l, l, nil, w.want)
		}
	}
}

func TestBothTellsWhatIsWrongWithTheFirstOneFirst(t *testing.T) {
	for _, a := range wrong {
		for _, b := range wrong {
			both(t, a.l, b.l, nil, a.want)
		}
	}
}

func TestAddOfANodeThatIsNotThere(t *testing.T) {
	l := some()
	for _, life := range lives {
		for state := range 3 {
			first, between, last := member(0, life, state), member(2, life, state), member(5, life, state)
			adds(t, l, first, members{first, l[0], l[1], l[2]}, true, api.OK)
			adds(t, l, between, members{l[0], between, l[1], l[2]}, true, api.OK)
			adds(t, l, last, members{l[0], l[1], l[2], last}, true, api.OK)
			for node := range api.Nodes {
				m := member(node, life, state)
				adds(t, nil, m, members{m}, true, api.OK)
				adds(t, members{}, m, members{m}, true, api.OK)
			}
		}
	}
}

func TestAddOfTheLastNodeThatWasNotThere(t *testing.T) {
	for node := range api.Nodes {
		adds(t, without(every(), node), every()[node], every(), true, api.OK)
	}
}

// TestAddOfANodeThatIsThere has each two of some that a node can be, in a view that has all nodes.
func TestAddOfANodeThatIsThere(t *testing.T) {
	for node := range api.Nodes {
		var all members
		for _, life := range lives {
			all = append(all, alive(node, life), suspect(node, life), dead(node, life))
		}
		for i, was := range all {
			for j, m := range all {
				is := with(every(), node, all[max(i, j)])
				adds(t, with(every(), node, was), m, is, j > i, api.OK)
				adds(t, members{was}, m, is[node:node+1], j > i, api.OK)
			}
		}
	}
}

func TestAddOfOneThatIsNotRight(t *testing.T) {
	for _, l := range right {
		for _, m := range notRight() {
			adds(t, l, m, nil, false, api.ErrRange)
		}
	}
}

func TestBoth(t *testing.T) {
	a := members{alive(1, 4), dead(2, 9), alive(4, 3)}
	b := members{dead(0, 0), suspect(1, 4), alive(2, 10), dead(4, 2), suspect(5, 100)}
	bothEitherWay(t, a, b, members{dead(0, 0), suspect(1, 4), alive(2, 10), alive(4, 3), suspect(5, 100)}, api.OK)

	bothEitherWay(t, every()[:3], every()[3:], every(), api.OK)
	bothEitherWay(t, every()[:4], every()[2:], every(), api.OK)
	bothEitherWay(t, members{alive(0, 0), dead(2, 2), suspect(4, 99)}, members{suspect(1, 1), alive(3, 50), dead(5, 100)}, every(), api.OK)
	bothEitherWay(t, members{alive(3, 0)}, members{dead(3, 0)}, members{dead(3, 0)}, api.OK)
	bothEitherWay(t, members{alive(0, 0)}, members{dead(5, 100)}, members{alive(0, 0), dead(5, 100)}, api.OK)
	both(t, nil, nil, nil, api.OK)
	both(t, nil, members{}, nil, api.OK)
	both(t, members{}, nil, nil, api.OK)
}

// bothByRule takes node by node what is told of it, and of two the newer one.
func bothByRule(a, b members) members {
	var l members
	for node := range api.Nodes {
		var told members
		for _, m := range slices.Concat(a, b) {
			if m.Node == node {
				told = append(told, m)
			}
		}
		if len(told) == 2 && newerByRule(told[1], told[0]) {
			told = told[1:]
		}
		if len(told) > 0 {
			l = append(l, told[0])
		}
	}
	return l
}

// someViews are views by chance, always the same ones.
func someViews(many int) []members {
	from := rand.New(rand.NewPCG(10, 29))
	var views []members
	for range many {
		var l members
		for node := range api.Nodes {
			if from.IntN(3) > 0 {
				l = append(l, member(node, lives[from.IntN(len(lives))], from.IntN(3)))
			}
		}
		views = append(views, l)
	}
	return views
}

func TestBothOfSomeViews(t *testing.T) {
	views := someViews(60)
	for _, a := range views {
		for _, b := range views {
			both(t, a, b, bothByRule(a, b), api.OK)
		}
	}
}

// TestAllHearTheSameInTheEnd has views told in more than one order, and one of them twice.
func TestAllHearTheSameInTheEnd(t *testing.T) {
	views := someViews(16)
	join := func(l ...members) members {
		var all members
		for _, one := range l {
			var err error
			if all, err = view.Both(all, one); err != nil {
				t.Fatal(err)
			}
		}
		return all
	}
	for _, a := range views {
		for _, b := range views {
			for _, c := range views {
				want := join(a, b, c)
				for _, l := range []members{join(c, b, a), join(b, c, a), join(a, c, b, a), join(c, join(b, a), b), join(a, join(b, c))} {
					if !slices.Equal(l, want) {
						t.Errorf("%v, %v, %v: got %v and %v", a, b, c, l, want)
					}
				}
			}
		}
	}
}

func TestAnswerOfOneThatIsAlive(t *testing.T) {
	for node := range api.Nodes {
		for _, life := range []int{0, 1, 50, 99, 100} {
			l := with(every(), node, alive(node, life))
			answers(t, l, node, l, api.OK)
			answers(t, members{alive(node, life)}, node, members{alive(node, life)}, api.OK)
		}
	}
}

func TestAnswerOfOneThatIsNotAlive(t *testing.T) {
	for node := range api.Nodes {
		for life := range api.MaxLife {
			for _, was := range notAlive(node, life) {
				answers(t, with(every(), node, was), node, with(every(), node, alive(node, life+1)), api.OK)
				answers(t, members{was}, node, members{alive(node, life+1)}, api.OK)
			}
		}
	}
}

func TestAnswerOfOneThatCanHaveNoOtherLife(t *testing.T) {
	for node := range api.Nodes {
		for _, was := range notAlive(node, 100) {
			answers(t, with(every(), node, was), node, nil, api.ErrFull)
			answers(t, members{was}, node, nil, api.ErrFull)
		}
	}
}

// TestAnswerIsNewer holds what a node answers against what was said of it: who hears both takes the answer.
func TestAnswerIsNewer(t *testing.T) {
	for node := range api.Nodes {
		for life := range api.MaxLife {
			for _, was := range notAlive(node, life) {
				l, err := view.Answer(with(every(), node, was), node)
				if err != nil {
					t.Fatal(err)
				}
				newerIs(t, l[node], was, true, api.OK)
				bothEitherWay(t, l, with(every(), node, was), l, api.OK)
				answers(t, l, node, l, api.OK)
			}
		}
	}
}

func TestAnswerOfOneThatIsNotThere(t *testing.T) {
	for node := range api.Nodes {
		answers(t, nil, node, nil, api.ErrNone)
		answers(t, members{}, node, nil, api.ErrNone)
		answers(t, without(every(), node), node, nil, api.ErrNone)
	}
	for _, node := range []int{0, 2, 5} {
		answers(t, some(), node, nil, api.ErrNone)
	}
}

func TestAnswerOfNoSuchNode(t *testing.T) {
	for _, l := range right {
		for _, node := range wrongNodes {
			answers(t, l, node, nil, api.ErrRange)
		}
	}
}

var behind = dead(5, 77)

// roomy is a copy of a view that has room behind it, and something in that room.
func roomy(l members) members {
	long := append(slices.Clone(l), behind, behind)
	return long[:len(l)]
}

// kept checks that a view, and what lies behind it, are as roomy made them.
func kept(t *testing.T, got, made members) {
	t.Helper()
	if want := append(slices.Clone(made), behind, behind); !slices.Equal(got[:len(want)], want) {
		t.Errorf("a view was written into: got %v, want %v", got[:len(want)], want)
	}
}

// spoil writes into all of an answer's memory.
func spoil(l members) {
	l = l[:cap(l)]
	for i := range l {
		l[i] = member(-5, -5, -5)
	}
}

// ownMemory checks that of two answers one can be spoilt, and the other one stays.
func ownMemory(t *testing.T, first, second members) {
	t.Helper()
	want := slices.Clone(second)
	spoil(first)
	if !slices.Equal(second, want) {
		t.Errorf("two answers share memory")
	}
}

// all are views that are right, and such as are not.
func all() []members {
	l := slices.Clone(right)
	for _, w := range wrong {
		l = append(l, w.l)
	}
	return l
}

func TestAddWritesIntoNothing(t *testing.T) {
	for _, l := range append(all(), without(every(), 0), without(every(), 3), without(every(), 5)) {
		for node := range api.Nodes + 1 {
			for _, m := range []api.Member{alive(node, 0), suspect(node, 50), dead(node, 100)} {
				in := roomy(l)
				first, _, _ := view.Add(in, m)
				second, _, _ := view.Add(in, m)
				ownMemory(t, first, second)
				kept(t, in, l)
			}
		}
	}
}

func TestBothWritesIntoNothing(t *testing.T) {
	for _, a := range all() {
		for _, b := range all() {
			x, y := roomy(a), roomy(b)
			first, _ := view.Both(x, y)
			second, _ := view.Both(x, y)
			ownMemory(t, first, second)
			kept(t, x, a)
			kept(t, y, b)
		}
	}
}

func TestAnswerWritesIntoNothing(t *testing.T) {
	for _, l := range all() {
		for node := range api.Nodes + 1 {
			in := roomy(l)
			first, _ := view.Answer(in, node)
			second, _ := view.Answer(in, node)
			ownMemory(t, first, second)
			kept(t, in, l)
		}
	}
}

package rumor_test

import (
	"math"
	"math/rand/v2"
	"slices"
	"testing"

	"beaconmere/api"
	"beaconmere/plain"
	"beaconmere/rumor"
)

type members = []api.Member

type rumors = []api.Rumor

var wrongNodes = []int{-1, 6, 7, -6, 255, 256, 1 << 32, math.MinInt, math.MaxInt}

var wrongLives = []int{-1, 101, 102, -100, 256, 1 << 32, math.MinInt, math.MaxInt}

var wrongStates = []int{-1, 3, 4, -2, 256, 1 << 32, math.MinInt, math.MaxInt}

var wrongTold = []int{-1, 61, 62, -60, 256, 1 << 32, math.MinInt, math.MaxInt}

var wrongMany = []int{-1, 7, 8, -6, 256, 1 << 32, math.MinInt, math.MaxInt}

var wrongLimits = []int{0, 61, -1, 62, -60, 256, 1 << 32, math.MinInt, math.MaxInt}

var wrongLimitNodes = []int{0, 7, -1, 8, 16, -6, 256, 1 << 32, math.MinInt, math.MaxInt}

func member(node, life, state int) api.Member {
	return api.Member{Node: node, Life: life, State: state}
}

func about(node, life, state, told int) api.Rumor {
	return api.Rumor{Member: member(node, life, state), Told: told}
}

// told is a rumor of which only the node, and how often it was told, counts.
func told(node, times int) api.Rumor { return about(node, 10+node, node%3, times) }

// of are rumors of all nodes from 0 on, told so often.
func of(times ...int) rumors {
	var l rumors
	for node, n := range times {
		l = append(l, told(node, n))
	}
	return l
}

// those are the Members of rumors.
func those(l ...api.Rumor) members {
	var all members
	for _, r := range l {
		all = append(all, r.Member)
	}
	return all
}

// some are rumors with room ahead of their nodes, between them and behind them.
func some() rumors { return rumors{about(1, 7, 1, 3), about(3, 0, 0, 0), about(4, 99, 2, 60)} }

// every are rumors of all nodes.
func every() rumors {
	return rumors{about(0, 0, 0, 60), about(1, 1, 1, 1), about(2, 2, 2, 0), about(3, 50, 0, 0), about(4, 99, 1, 59), about(5, 100, 2, 1)}
}

// with is a copy of rumors in which one is another one.
func with(l rumors, i int, r api.Rumor) rumors {
	l = slices.Clone(l)
	l[i] = r
	return l
}

// without is a copy of rumors in which one is not there.
func without(l rumors, i int) rumors { return slices.Delete(slices.Clone(l), i, i+1) }

// notRight are members with a fault each, the edges among them; the last ones have several.
func notRight() members {
	var l members
	for _, node := range wrongNodes {
		l = append(l, member(node, 0, 0), member(node, 100, 2))
	}
	for _, life := range wrongLives {
		l = append(l, member(0, life, 0), member(3, life, 1), member(5, life, 2))
	}
	for _, state := range wrongStates {
		l = append(l, member(0, 0, state), member(3, 50, state), member(5, 100, state))
	}
	return append(l, member(-1, -1, -1), member(6, 101, 3), member(math.MinInt, math.MaxInt, math.MinInt))
}

func limitIs(t *testing.T, n, want int, wantErr api.Errno) {
	t.Helper()
	if got, err := rumor.Limit(n); got != want || plain.Told(err) != wantErr {
		t.Errorf("Limit(%d): got %d, %v, want %d, %v", n, got, err, want, wantErr)
	}
}

func adds(t *testing.T, l rumors, m api.Member, want rumors, wantIs bool, wantErr api.Errno) {
	t.Helper()
	got, is, err := rumor.Add(l, m)
	if !slices.Equal(got, want) || is != wantIs || plain.Told(err) != wantErr {
		t.Errorf("Add(%v, %v): got %v, %v, %v, want %v, %v, %v", l, m, got, is, err, want, wantIs, wantErr)
	}
}

func picks(t *testing.T, l rumors, many, limit int, want members, wantLeft rumors, wantErr api.Errno) {
	t.Helper()
	got, left, err := rumor.Pick(l, many, limit)
	if !slices.Equal(got, want) || !slices.Equal(left, wantLeft) || plain.Told(err) != wantErr {
		t.Errorf("Pick(%v, %d, %d): got %v, %v, %v, want %v, %v, %v", l, many, limit, got, left, err, want, wantLeft, wantErr)
	}
}

// right are rumors with nothing wrong, the edges among them.
var right = []rumors{
	nil,
	{},
	{{}},
	{about(0, 100, 0, 60)},
	{about(5, 0, 2, 0)},
	{about(5, 100, 2, 60)},
	{about(0, 100, 2, 60), about(1, 0, 0, 0)},
	{about(0, 0, 0, 0), about(5, 100, 2, 60)},
	{about(4, 9, 1, 1), about(5, 9, 1, 1)},
	some(),
	every(),
}

// wrong are rumors with their faults; where several apply, the one that is told.
var wrong = []struct {
	l    rumors
	want api.Errno
}{
	{append(every(), told(5, 0)), api.ErrFull},
	{append(every(), told(6, 0)), api.ErrFull},
	{append(every(), told(5, 61)), api.ErrFull},
	{append(rumors{told(-1, 0)}, every()...), api.ErrFull},
	{make(rumors, 7), api.ErrFull},
	{make(rumors, 100_000), api.ErrFull},
	{slices.Repeat(rumors{about(6, 101, 3, 61)}, 7), api.ErrFull},

	{rumors{about(-1, 0, 0, 0)}, api.ErrRange},
	{rumors{about(6, 0, 0, 0)}, api.ErrRange},
	{rumors{about(0, -1, 0, 0)}, api.ErrRange},
	{rumors{about(0, 101, 0, 0)}, api.ErrRange},
	{rumors{about(0, 0, -1, 0)}, api.ErrRange},
	{rumors{about(0, 0, 3, 0)}, api.ErrRange},
	{rumors{about(0, 0, 0, -1)}, api.ErrRange},
	{rumors{about(0, 0, 0, 61)}, api.ErrRange},
	{with(every(), 0, about(-1, 0, 0, 0)), api.ErrRange},
	{with(every(), 5, about(6, 0, 0, 0)), api.ErrRange},
	{with(every(), 0, about(0, 0, 3, 0)), api.ErrRange},
	{with(every(), 3, about(3, 101, 1, 0)), api.ErrRange},
	{with(every(), 5, about(5, -1, 2, 0)), api.ErrRange},
	{with(every(), 0, told(0, 61)), api.ErrRange},
	{with(every(), 3, told(3, -1)), api.ErrRange},
	{with(every(), 5, told(5, 61)), api.ErrRange},

	{rumors{told(3, 0), told(3, 0)}, api.ErrShape},
	{rumors{told(0, 0), told(0, 1)}, api.ErrShape},
	{rumors{about(5, 1, 2, 1), about(5, 0, 0, 0)}, api.ErrShape},
	{rumors{about(5, 0, 0, 0), about(5, 1, 2, 1)}, api.ErrShape},
	{rumors{told(4, 0), told(3, 1)}, api.ErrShape},
	{rumors{told(5, 1), told(0, 0)}, api.ErrShape},
	{rumors{told(0, 5), told(2, 4), told(1, 6)}, api.ErrShape},
	{rumors{told(0, 0), told(1, 0), told(2, 0), told(0, 0)}, api.ErrShape},
	{with(every(), 5, told(4, 0)), api.ErrShape},
	{with(every(), 0, told(1, 0)), api.ErrShape},
	{make(rumors, 2), api.ErrShape},
	{make(rumors, 6), api.ErrShape},

	// Of several rumors with a fault the first one counts, and of its faults that of its numbers.
	{rumors{told(3, 0), told(3, 0), told(6, 0)}, api.ErrShape},
	{rumors{told(3, 0), told(2, 0), about(4, 101, 0, 0)}, api.ErrShape},
	{rumors{told(3, 0), told(2, 0), told(4, 61)}, api.ErrShape},
	{rumors{told(3, 0), about(4, 101, 0, 0), told(2, 0)}, api.ErrRange},
	{rumors{told(3, 0), told(4, 61), told(2, 0)}, api.ErrRange},
	{rumors{told(3, -1), told(2, 0), told(1, 0)}, api.ErrRange},
	{rumors{told(3, 0), told(-1, 0)}, api.ErrRange},
	{rumors{told(3, 0), about(2, 101, 0, 0)}, api.ErrRange},
	{rumors{told(3, 0), about(3, 0, -1, 0)}, api.ErrRange},
	{rumors{told(3, 0), told(3, 61)}, api.ErrRange},
	{rumors{told(3, 0), told(2, -1)}, api.ErrRange},
}

func TestLimit(t *testing.T) {
	for n, want := range map[int]int{1: 0, 2: 3, 3: 6, 4: 6, 5: 9, 6: 9} {
		limitIs(t, n, want, api.OK)
	}
}

// TestLimitByRule goes down from far too great a power, instead of up.
func TestLimitByRule(t *testing.T) {
	for n := 1; n <= api.Nodes; n++ {
		power, least := 1024, 10
		for power%2 == 0 && power/2 >= n {
			power, least = power/2, least-1
		}
		limitIs(t, n, least+least+least, api.OK)
	}
}

func TestLimitOutOfRange(t *testing.T) {
	for _, n := range wrongLimitNodes {
		limitIs(t, n, 0, api.ErrRange)
	}
}

func TestNothingIsWrong(t *testing.T) {
	for _, l := range right {
		for _, r := range l {
			adds(t, l, r.Member, l, false, api.OK)
		}
		picks(t, l, 0, 1, nil, l, api.OK)
		picks(t, l, 6, 1, those(l...), nil, api.OK)
	}
}

// TestRightAtEachNumber has all that a rumor's numbers can be.
func TestRightAtEachNumber(t *testing.T) {
	for node := range api.Nodes {
		for life := range api.MaxLife + 1 {
			for state := range 3 {
				l := rumors{about(node, life, state, life%(api.MaxTurns+1))}
				picks(t, l, 0, 60, nil, l, api.OK)
			}
		}
		for times := range api.MaxTurns + 1 {
			l := rumors{told(node, times)}
			picks(t, l, 0, 60, nil, l, api.OK)
		}
	}
}

// TestWhatIsWrong also has it beside all else that may be wrong.
func TestWhatIsWrong(t *testing.T) {
	for _, w := range wrong {
		adds(t, w.l, member(3, 100, 2), nil, false, w.want)
		for _, m := range notRight() {
			adds(t, w.l, m, nil, false, w.want)
		}
		for many := range api.Nodes + 1 {
			picks(t, w.l, many, 1, nil, nil, w.want)
			picks(t, w.l, many, 0, nil, nil, w.want)
		}
		for _, many := range wrongMany {
			picks(t, w.l, many, 60, nil, nil, w.want)
			picks(t, w.l, many, 61, nil, nil, w.want)
		}
	}
}

// TestOneThatIsNotRight has each fault of a rumor, in each place of rumors that are right but for it.
func TestOneThatIsNotRight(t *testing.T) {
	var bad rumors
	for _, m := range notRight() {
		bad = append(bad, api.Rumor{Member: m}, api.Rumor{Member: m, Told: 60})
	}
	for _, times := range wrongTold {
		bad = append(bad, told(0, times), told(3, times), told(5, times))
	}
	for _, r := range bad {
		for i := range every() {
			// Its node may not rise, either; what is told is that it is not right.
			l := with(every(), i, r)
			adds(t, l, member(0, 0, 0), nil, false, api.ErrRange)
			picks(t, l, 1, 1, nil, nil, api.ErrRange)
		}
	}
}

func TestAddOfANodeOfWhichThereIsNone(t *testing.T) {
	l := some()
	for _, life := range []int{0, 1, 50, 99, 100} {
		for state := range 3 {
			first, between, last := about(0, life, state, 0), about(2, life, state, 0), about(5, life, state, 0)
			adds(t, l, first.Member, rumors{first, l[0], l[1], l[2]}, true, api.OK)
			adds(t, l, between.Member, rumors{l[0], between, l[1], l[2]}, true, api.OK)
			adds(t, l, last.Member, rumors{l[0], l[1], l[2], last}, true, api.OK)
			for node := range api.Nodes {
				r := about(node, life, state, 0)
				adds(t, nil, r.Member, rumors{r}, true, api.OK)
				adds(t, rumors{}, r.Member, rumors{r}, true, api.OK)
			}
		}
	}
}

func TestAddOfTheLastNodeOfWhichThereWasNone(t *testing.T) {
	for node := range api.Nodes {
		m := every()[node].Member
		adds(t, without(every(), node), m, with(every(), node, api.Rumor{Member: m}), true, api.OK)
	}
}

// TestAddOfANodeOfWhichThereIsOne has each two of some that a node can be, the older ones first, told never, once and so often as can be.
func TestAddOfANodeOfWhichThereIsOne(t *testing.T) {
	for node := range api.Nodes {
		var all members
		for _, life := range []int{0, 1, 2, 50, 99, 100} {
			all = append(all, member(node, life, 0), member(node, life, 1), member(node, life, 2))
		}
		for i, was := range all {
			for j, m := range all {
				for _, times := range []int{0, 1, 59, 60} {
					is := api.Rumor{Member: was, Told: times}
					l := with(every(), node, is)
					if j > i {
						is = api.Rumor{Member: m}
					}
					adds(t, l, m, with(every(), node, is), j > i, api.OK)
					adds(t, l[node:node+1], m, rumors{is}, j > i, api.OK)
				}
			}
		}
	}
}

func TestAddOfOneThatIsNotRight(t *testing.T) {
	for _, l := range right {
		for _, m := range notRight() {
			adds(t, l, m, nil, false, api.ErrRange)
		}
	}
}

func TestPickOfThoseToldTheLeast(t *testing.T) {
	l := of(2, 0, 3, 1, 0, 1)
	picks(t, l, 0, 9, nil, l, api.OK)
	picks(t, l, 1, 9, those(l[1]), of(2, 1, 3, 1, 0, 1), api.OK)
	picks(t, l, 2, 9, those(l[1], l[4]), of(2, 1, 3, 1, 1, 1), api.OK)
	picks(t, l, 3, 9, those(l[1], l[3], l[4]), of(2, 1, 3, 2, 1, 1), api.OK)
	picks(t, l, 4, 9, those(l[1], l[3], l[4], l[5]), of(2, 1, 3, 2, 1, 2), api.OK)
	picks(t, l, 5, 9, those(l[0], l[1], l[3], l[4], l[5]), of(3, 1, 3, 2, 1, 2), api.OK)
	picks(t, l, 6, 9, those(l...), of(3, 1, 4, 2, 1, 2), api.OK)
}

func TestPickGoesByNodesWhereAllWereToldAsOften(t *testing.T) {
	for _, times := range []int{0, 1, 30, 58} {
		l := of(times, times, times, times, times, times)
		for many := range api.Nodes + 1 {
			left := slices.Clone(l)
			for i := range many {
				left[i].Told++
			}
			picks(t, l, many, 60, those(l[:many]...), left, api.OK)
		}
	}
}

// TestPickTellsByNodes has rumors that were told the less the greater their nodes are: what is told does not come in that order.
func TestPickTellsByNodes(t *testing.T) {
	l := of(50, 40, 30, 20, 10, 0)
	for many := range api.Nodes + 1 {
		left := slices.Clone(l)
		for i := api.Nodes - many; i < api.Nodes; i++ {
			left[i].Told++
		}
		picks(t, l, many, 60, those(l[api.Nodes-many:]...), left, api.OK)
	}
}

func TestPickOfMoreThanThereAre(t *testing.T) {
	for many := range api.Nodes + 1 {
		picks(t, nil, many, 1, nil, nil, api.OK)
		picks(t, rumors{}, many, 60, nil, nil, api.OK)
	}
	for many := 1; many <= api.Nodes; many++ {
		picks(t, rumors{told(3, 0)}, many, 2, those(told(3, 0)), rumors{told(3, 1)}, api.OK)
	}
	two := rumors{told(2, 7), told(5, 1)}
	picks(t, two, 1, 9, those(two[1]), rumors{told(2, 7), told(5, 2)}, api.OK)
	for many := 2; many <= api.Nodes; many++ {
		picks(t, two, many, 9, those(two...), rumors{told(2, 8), told(5, 2)}, api.OK)
	}
}

func TestPickLeavesOutWhatWasToldLimitTimes(t *testing.T) {
	for limit := 1; limit <= api.MaxTurns; limit++ {
		for times := range api.MaxTurns + 1 {
			var left rumors
			if times+1 < limit {
				left = rumors{told(4, times+1)}
			}
			picks(t, rumors{told(4, times)}, 1, limit, those(told(4, times)), left, api.OK)
		}
	}
	// Of those that are told some stay, some were then told limit times, and some more often.
	l := of(0, 1, 2, 3, 4, 60)
	picks(t, l, 6, 3, those(l...), of(1, 2), api.OK)
	picks(t, l, 3, 3, those(l[:3]...), rumors{told(0, 1), told(1, 2), l[3], l[4], l[5]}, api.OK)
}

func TestPickKeepsWhatIsNotTold(t *testing.T) {
	l := of(9, 3, 60, 2, 4, 3)
	picks(t, l, 0, 1, nil, l, api.OK)
	picks(t, l, 1, 3, those(l[3]), without(l, 3), api.OK)
	picks(t, l, 2, 1, those(l[1], l[3]), rumors{l[0], l[2], l[4], l[5]}, api.OK)
	picks(t, l, 3, 4, those(l[1], l[3], l[5]), rumors{l[0], l[2], told(3, 3), l[4]}, api.OK)
	picks(t, l, 5, 1, those(l[0], l[1], l[3], l[4], l[5]), rumors{l[2]}, api.OK)
}

func TestPickOutOfRange(t *testing.T) {
	for _, l := range right {
		for _, many := range wrongMany {
			for _, limit := range []int{1, 2, 59, 60} {
				picks(t, l, many, limit, nil, nil, api.ErrRange)
			}
		}
		for _, limit := range wrongLimits {
			for many := range api.Nodes + 1 {
				picks(t, l, many, limit, nil, nil, api.ErrRange)
			}
			picks(t, l, -1, limit, nil, nil, api.ErrRange)
			picks(t, l, 7, limit, nil, nil, api.ErrRange)
		}
	}
}

// pickByRule goes from the times that a rumor can have been told, least first, through the nodes, and marks what it comes by.
func pickByRule(l rumors, many, limit int) (members, rumors) {
	var marked [api.Nodes]bool
	for times := range api.MaxTurns + 1 {
		for _, r := range l {
			if r.Told == times && many > 0 {
				marked[r.Member.Node] = true
				many--
			}
		}
	}
	var out members
	var left rumors
	for node, is := range marked {
		for _, r := range l {
			if r.Member.Node != node {
				continue
			}
			if is {
				out = append(out, r.Member)
			}
			if !is {
				left = append(left, r)
			} else if r.Told <= limit-2 {
				left = append(left, api.Rumor{Member: r.Member, Told: r.Told + 1})
			}
		}
	}
	return out, left
}

// someRumors are rumors by chance, always the same ones.
func someRumors(times int) []rumors {
	from := rand.New(rand.NewPCG(12, 35))
	var all []rumors
	for range times {
		var l rumors
		most := 1 + from.IntN(api.MaxTurns+1)
		for node := range api.Nodes {
			if from.IntN(4) > 0 {
				l = append(l, about(node, from.IntN(api.MaxLife+1), from.IntN(3), from.IntN(most)))
			}
		}
		all = append(all, l)
	}
	return all
}

func TestPickOfSomeRumors(t *testing.T) {
	for _, l := range someRumors(200) {
		for many := range api.Nodes + 1 {
			for limit := 1; limit <= api.MaxTurns; limit++ {
				out, left := pickByRule(l, many, limit)
				picks(t, l, many, limit, out, left, api.OK)
			}
		}
	}
}

// TestPickOfAllThatWereToldLittle has rumors of up to four nodes that were told 0 to 3 times, each way.
func TestPickOfAllThatWereToldLittle(t *testing.T) {
	for code := range 5 * 5 * 5 * 5 {
		var l rumors
		for node := range 4 {
			if code%5 < 4 {
				l = append(l, told(node+node/2, code%5))
			}
			code /= 5
		}
		for many := range api.Nodes + 1 {
			for limit := 1; limit <= 5; limit++ {
				out, left := pickByRule(l, many, limit)
				picks(t, l, many, limit, out, left, api.OK)
			}
		}
	}
}

// fresh are new rumors of so many nodes, put in one by one.
func fresh(t *testing.T, nodes int) rumors {
	t.Helper()
	var l rumors
	for i := range nodes {
		var is bool
		var err error
		l, is, err = rumor.Add(l, member((i*5+3)%api.Nodes, i, i%3))
		if !is || err != nil {
			t.Fatalf("Add of a new node: got %v, %v", is, err)
		}
	}
	return l
}

// toldTurnByTurn tells rumors until there are none, and gives how often each node was told of. No rumor may be told ahead of one that was told less.
func toldTurnByTurn(t *testing.T, l rumors, many, limit int) [api.Nodes]int {
	t.Helper()
	var times [api.Nodes]int
	for turn := 0; len(l) > 0; turn++ {
		if turn > api.Nodes*api.MaxTurns {
			t.Fatalf("rumors are told without an end: %v", l)
		}
		out, left, err := rumor.Pick(l, many, limit)
		if err != nil {
			t.Fatal(err)
		}
		if len(out) != min(many, len(l)) {
			t.Fatalf("Pick(%v, %d, %d) tells %v", l, many, limit, out)
		}
		for _, r := range l {
			for _, other := range l {
				if slices.Contains(out, r.Member) && !slices.Contains(out, other.Member) && other.Told < r.Told {
					t.Errorf("Pick(%v, %d, %d) tells %v ahead of %v", l, many, limit, r, other)
				}
			}
		}
		for _, m := range out {
			times[m.Node]++
		}
		l = left
	}
	return times
}

func TestNewRumorsAreToldJustLimitTimes(t *testing.T) {
	for nodes := range api.Nodes + 1 {
		for many := 1; many <= api.Nodes; many++ {
			for limit := 1; limit <= api.MaxTurns; limit++ {
				l := fresh(t, nodes)
				var want [api.Nodes]int
				for _, r := range l {
					want[r.Member.Node] = limit
				}
				if got := toldTurnByTurn(t, l, many, limit); got != want {
					t.Errorf("%d nodes, %d at a turn, limit %d: told %v times, want %v", nodes, many, limit, got, want)
				}
			}
		}
	}
}

// TestNewRumorsAreToldByTheirLimit takes the limit that goes with so many nodes.
func TestNewRumorsAreToldByTheirLimit(t *testing.T) {
	for nodes := 2; nodes <= api.Nodes; nodes++ {
		limit, err := rumor.Limit(nodes)
		if err != nil {
			t.Fatal(err)
		}
		all := 0
		for _, n := range toldTurnByTurn(t, fresh(t, nodes), 2, limit) {
			all += n
		}
		if all != nodes*limit {
			t.Errorf("%d nodes: told %d times in all, want %d", nodes, all, nodes*limit)
		}
	}
}

// TestANewerOneIsToldAnew has a rumor that was told, and then another one of its node: it is told limit times, whatever was told of the older one.
func TestANewerOneIsToldAnew(t *testing.T) {
	for before := range 9 {
		l := fresh(t, 6)
		for range before {
			_, left, err := rumor.Pick(l, 6, 9)
			if err != nil {
				t.Fatal(err)
			}
			l = left
		}
		l, is, err := rumor.Add(l, member(3, 77, 2))
		if !is || err != nil {
			t.Fatalf("Add of a newer one: got %v, %v", is, err)
		}
		rest := 9 - before
		want := [api.Nodes]int{rest, rest, rest, 9, rest, rest}
		if got := toldTurnByTurn(t, l, 2, 9); got != want {
			t.Errorf("told %d times before: then told %v times, want %v", before, got, want)
		}
	}
}

var behind = about(5, 77, 2, 33)

// roomy is a copy of rumors that has room behind it, and something in that room.
func roomy(l rumors) rumors {
	long := append(slices.Clone(l), behind, behind)
	return long[:len(l)]
}

// kept checks that rumors, and what lies behind them, are as roomy made them.
func kept(t *testing.T, got, made rumors) {
	t.Helper()
	if want := append(slices.Clone(made), behind, behind); !slices.Equal(got[:len(want)], want) {
		t.Errorf("rumors were written into: got %v, want %v", got[:len(want)], want)
	}
}

// ownMemory checks that of two answers one can be spoilt, and the other one stays.
func ownMemory[T comparable](t *testing.T, first, second []T, with T) {
	t.Helper()
	want := slices.Clone(second)
	first = first[:cap(first)]
	for i := range first {
		first[i] = with
	}
	if !slices.Equal(second, want) {
		t.Errorf("two answers share memory")
	}
}

// all are rumors that are right, and such as are not.
func all() []rumors {
	l := slices.Clone(right)
	for _, w := range wrong {
		l = append(l, w.l)
	}
	return append(l, without(every(), 0), without(every(), 3), without(every(), 5))
}

func TestAddWritesIntoNothing(t *testing.T) {
	for _, l := range all() {
		for node := range api.Nodes + 1 {
			for _, m := range []api.Member{member(node, 0, 0), member(node, 50, 1), member(node, 100, 2)} {
				in := roomy(l)
				first, _, _ := rumor.Add(in, m)
				second, _, _ := rumor.Add(in, m)
				ownMemory(t, first, second, about(-5, -5, -5, -5))
				kept(t, in, l)
			}
		}
	}
}

func TestPickWritesIntoNothing(t *testing.T) {
	for _, l := range append(all(), of(5, 4, 3, 2, 1, 0), of(0, 0, 0, 0, 0, 0)) {
		for many := range api.Nodes + 2 {
			for _, limit := range []int{0, 1, 2, 5, 60, 61} {
				in := roomy(l)
				first, firstLeft, _ := rumor.Pick(in, many, limit)
				second, secondLeft, _ := rumor.Pick(in, many, limit)
				ownMemory(t, first, second, member(-5, -5, -5))
				ownMemory(t, firstLeft, secondLeft, about(-5, -5, -5, -5))
				kept(t, in, l)
			}
		}
	}
}

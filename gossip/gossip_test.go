package gossip_test

import (
	"math"
	"math/rand/v2"
	"slices"
	"testing"

	"beaconmere/api"
	"beaconmere/gossip"
	"beaconmere/plain"
)

type calls = [][]int

var wrongNumbers = []int{0, 7, -1, 8, -2, -6, 40, 41, 63, 64, 256, 1 << 32, 1<<32 + 2, math.MinInt, math.MinInt + 1, math.MaxInt - 1, math.MaxInt}

// plans are those that the chapter names, by n.
var plans = []calls{
	1: nil,
	2: {{0, 1}},
	3: {{0, 1}, {0, 2}, {0, 1}},
	4: {{0, 1}, {2, 3}, {0, 2}, {1, 3}},
	5: {{4, 0}, {0, 1}, {2, 3}, {0, 2}, {1, 3}, {4, 0}},
	6: {{4, 0}, {5, 0}, {0, 1}, {2, 3}, {0, 2}, {1, 3}, {4, 0}, {5, 0}},
}

// wrongNodes are none of n nodes, those at the edges first.
func wrongNodes(n int) []int {
	all := []int{-1, n, n + 1, -n, 2 * n, 5, 6, 7, 32, 63, 64, 256, 1 << 32, 1<<32 + 1, math.MinInt, math.MinInt + 1, math.MaxInt - 1, math.MaxInt}
	return slices.DeleteFunc(all, func(node int) bool { return node >= 0 && node < n })
}

// pairs are all the right calls of n nodes, each either way round.
func pairs(n int) calls {
	var all calls
	for a := range n {
		for b := range n {
			if a != b {
				all = append(all, []int{a, b})
			}
		}
	}
	return all
}

// own is what each knows at first.
func own(n int) []int { return []int{1, 2, 4, 8, 16, 32}[:n] }

// many is so many calls that are the same.
func many(call []int, times int) calls { return slices.Repeat(calls{call}, times) }

// cloned is a copy of calls that shares nothing with them.
func cloned(l calls) calls {
	var all calls
	for _, c := range l {
		all = append(all, slices.Clone(c))
	}
	return all
}

func same(a, b calls) bool {
	return slices.EqualFunc(a, b, func(x, y []int) bool { return slices.Equal(x, y) })
}

// table is who knows whose thing: a row for each node.
type table [api.Nodes][api.Nodes]bool

// tableOf goes by sets of things instead of by numbers.
func tableOf(n int, l calls) table {
	var who table
	for node := range n {
		who[node][node] = true
	}
	for _, c := range l {
		for thing := range n {
			if who[c[0]][thing] || who[c[1]][thing] {
				who[c[0]][thing], who[c[1]][thing] = true, true
			}
		}
	}
	return who
}

// told is what a table tells, added up, and whether all know all.
func told(n int, who table) ([]int, bool) {
	var known []int
	done := true
	for node := range n {
		sum := 0
		for thing, power := range own(n) {
			if who[node][thing] {
				sum += power
			} else {
				done = false
			}
		}
		known = append(known, sum)
	}
	return known, done
}

// faultOf a call, word by word as the chapter has it.
func faultOf(n int, call []int) api.Errno {
	switch {
	case len(call) != 2:
		return api.ErrShape
	case call[0] < 0 || call[0] >= n || call[1] < 0 || call[1] >= n:
		return api.ErrRange
	case call[0] == call[1]:
		return api.ErrShape
	}
	return api.OK
}

func playIs(t *testing.T, n int, l calls, want []int, wantErr api.Errno) {
	t.Helper()
	known, err := gossip.Play(n, l)
	if !slices.Equal(known, want) || plain.Told(err) != wantErr {
		t.Errorf("Play(%d, %v): got %v, %v, want %v, %v", n, l, known, err, want, wantErr)
	}
}

func doneIs(t *testing.T, n int, l calls, want bool, wantErr api.Errno) {
	t.Helper()
	if is, err := gossip.Done(n, l); is != want || plain.Told(err) != wantErr {
		t.Errorf("Done(%d, %v): got %v, %v, want %v, %v", n, l, is, err, want, wantErr)
	}
}

func planIs(t *testing.T, n int, want calls, wantErr api.Errno) {
	t.Helper()
	if plan, err := gossip.Plan(n); !same(plan, want) || plain.Told(err) != wantErr {
		t.Errorf("Plan(%d): got %v, %v, want %v, %v", n, plan, err, want, wantErr)
	}
}

// isBy has right calls go as the table has them.
func isBy(t *testing.T, n int, l calls) {
	t.Helper()
	known, done := told(n, tableOf(n, l))
	playIs(t, n, l, known, api.OK)
	doneIs(t, n, l, done, api.OK)
}

// isWrong has both Play and Done tell a fault, and nothing else.
func isWrong(t *testing.T, n int, l calls, want api.Errno) {
	t.Helper()
	playIs(t, n, l, nil, want)
	doneIs(t, n, l, false, want)
}

// eachRow hands over each row of so many of some calls.
func eachRow(some calls, long int, do func(calls)) {
	row := make(calls, long)
	var fill func(at int)
	fill = func(at int) {
		if at == long {
			do(row)
			return
		}
		for _, c := range some {
			row[at] = c
			fill(at + 1)
		}
	}
	fill(0)
}

// byChance is a row of so many right calls.
func byChance(r *rand.Rand, n, long int) calls {
	var all calls
	some := pairs(n)
	for range long {
		all = append(all, some[r.IntN(len(some))])
	}
	return all
}

func TestWithoutACall(t *testing.T) {
	playIs(t, 1, nil, []int{1}, api.OK)
	playIs(t, 2, nil, []int{1, 2}, api.OK)
	playIs(t, 3, nil, []int{1, 2, 4}, api.OK)
	playIs(t, 4, nil, []int{1, 2, 4, 8}, api.OK)
	playIs(t, 5, nil, []int{1, 2, 4, 8, 16}, api.OK)
	playIs(t, 6, nil, []int{1, 2, 4, 8, 16, 32}, api.OK)
	for n := 1; n <= 6; n++ {
		playIs(t, n, calls{}, own(n), api.OK)
		doneIs(t, n, nil, n == 1, api.OK)
		doneIs(t, n, calls{}, n == 1, api.OK)
	}
}

func TestPlaysThatAreKnown(t *testing.T) {
	for _, c := range []struct {
		n    int
		l    calls
		want []int
	}{
		{2, calls{{0, 1}}, []int{3, 3}},
		{2, calls{{1, 0}}, []int{3, 3}},
		{3, calls{{0, 2}}, []int{5, 2, 5}},
		{3, calls{{0, 1}, {1, 2}}, []int{3, 7, 7}},
		{3, calls{{1, 2}, {0, 1}}, []int{7, 7, 6}},
		{4, calls{{0, 1}, {2, 3}}, []int{3, 3, 12, 12}},
		{4, calls{{0, 1}, {2, 3}, {3, 1}}, []int{3, 15, 12, 15}},
		{4, calls{{0, 1}, {2, 3}, {3, 1}, {2, 0}}, []int{15, 15, 15, 15}},
		{5, calls{{4, 3}, {3, 2}, {2, 1}, {1, 0}}, []int{31, 31, 30, 28, 24}},
		{5, calls{{1, 0}, {2, 1}, {3, 2}, {4, 3}}, []int{3, 7, 15, 31, 31}},
		{6, calls{{5, 0}}, []int{33, 2, 4, 8, 16, 33}},
		{6, calls{{0, 1}, {2, 3}, {4, 5}}, []int{3, 3, 12, 12, 48, 48}},
		{6, calls{{0, 1}, {2, 3}, {4, 5}, {1, 2}, {3, 4}}, []int{3, 15, 15, 60, 60, 48}},
	} {
		playIs(t, c.n, c.l, c.want, api.OK)
	}
}

func TestOneCall(t *testing.T) {
	for n := 2; n <= 6; n++ {
		for _, c := range pairs(n) {
			want := own(n)
			both := want[c[0]] + want[c[1]]
			want[c[0]], want[c[1]] = both, both
			playIs(t, n, calls{c}, want, api.OK)
			doneIs(t, n, calls{c}, n == 2, api.OK)
		}
	}
}

// TestAgain has a call that is made again, and again, tell nothing new.
func TestAgain(t *testing.T) {
	for n := 2; n <= 6; n++ {
		for _, c := range pairs(n) {
			once, err := gossip.Play(n, calls{c})
			if err != nil {
				t.Fatal(err)
			}
			for _, times := range []int{2, 3, 39, 40} {
				playIs(t, n, many(c, times), once, api.OK)
				doneIs(t, n, many(c, times), n == 2, api.OK)
			}
			playIs(t, n, calls{c, {c[1], c[0]}}, once, api.OK)
		}
	}
}

// TestEitherWayRound turns some of the calls of a row round.
func TestEitherWayRound(t *testing.T) {
	r := rand.New(rand.NewPCG(15, 1))
	for range 2000 {
		n := 2 + r.IntN(5)
		l := byChance(r, n, r.IntN(41))
		turned := cloned(l)
		for _, c := range turned {
			if r.IntN(2) == 0 {
				slices.Reverse(c)
			}
		}
		want, err := gossip.Play(n, l)
		if err != nil {
			t.Fatal(err)
		}
		done, _ := gossip.Done(n, l)
		playIs(t, n, turned, want, api.OK)
		doneIs(t, n, turned, done, api.OK)
	}
}

// TestCallByCall has both know, behind a call, all that one of both knew ahead of it, and the others what they knew.
func TestCallByCall(t *testing.T) {
	r := rand.New(rand.NewPCG(15, 2))
	for range 500 {
		n := 2 + r.IntN(5)
		l := byChance(r, n, 40)
		ahead := own(n)
		for i, c := range l {
			behind, err := gossip.Play(n, l[:i+1])
			if err != nil || len(behind) != n {
				t.Fatalf("Play(%d, %v): got %v, %v", n, l[:i+1], behind, err)
			}
			for node := range n {
				want := ahead[node]
				if slices.Contains(c, node) {
					want = ahead[c[0]] | ahead[c[1]]
				}
				if behind[node] != want {
					t.Fatalf("Play(%d, %v): node %d knows %d, want %d", n, l[:i+1], node, behind[node], want)
				}
			}
			ahead = behind
		}
	}
}

func TestOrderCounts(t *testing.T) {
	playIs(t, 3, calls{{0, 1}, {0, 2}}, []int{7, 3, 7}, api.OK)
	playIs(t, 3, calls{{0, 2}, {0, 1}}, []int{7, 7, 5}, api.OK)
	doneIs(t, 4, calls{{0, 1}, {2, 3}, {0, 2}, {1, 3}}, true, api.OK)
	doneIs(t, 4, calls{{0, 2}, {1, 3}, {0, 1}, {2, 3}}, true, api.OK)
	doneIs(t, 4, calls{{0, 1}, {0, 2}, {2, 3}, {1, 3}}, false, api.OK)
	playIs(t, 4, calls{{0, 1}, {0, 2}, {2, 3}, {1, 3}}, []int{7, 15, 15, 15}, api.OK)
	doneIs(t, 3, calls{{0, 1}, {0, 2}, {0, 1}}, true, api.OK)
	doneIs(t, 3, calls{{0, 1}, {0, 1}, {0, 2}}, false, api.OK)
}

func TestEachShortRow(t *testing.T) {
	longest := []int{2: 6, 3: 5, 4: 4, 5: 3, 6: 3}
	for n := 2; n <= 6; n++ {
		for long := range longest[n] + 1 {
			eachRow(pairs(n), long, func(l calls) { isBy(t, n, l) })
		}
	}
}

func TestLongRowsByChance(t *testing.T) {
	r := rand.New(rand.NewPCG(15, 3))
	for range 20_000 {
		n := 2 + r.IntN(5)
		isBy(t, n, byChance(r, n, r.IntN(41)))
	}
}

// TestDoneJustWhereAllKnowAll has rows in which but one node lacks something, whichever it is.
func TestDoneJustWhereAllKnowAll(t *testing.T) {
	for n := 3; n <= 6; n++ {
		for last := range n {
			l := allButOneKnow(n, last)
			known, err := gossip.Play(n, l)
			if err != nil {
				t.Fatal(err)
			}
			for node, some := range known {
				if (some == 1<<n-1) != (node != last) {
					t.Errorf("Play(%d, %v): node %d knows %d", n, l, node, some)
				}
			}
			doneIs(t, n, l, false, api.OK)
			doneIs(t, n, append(l, []int{(last + 1) % n, last}), true, api.OK)
		}
	}
}

// allButOneKnow is a row behind which one node lacks something, and no other one does.
func allButOneKnow(n, last int) calls {
	first := (last + 1) % n
	l := calls{{first, last}}
	// From here on the last one is told nothing, while another one hears all, and tells it.
	for i := 1; i < n-1; i++ {
		l = append(l, []int{first, (first + i) % n})
	}
	for i := 1; i < n-2; i++ {
		l = append(l, []int{first, (first + i) % n})
	}
	return l
}

func TestNoSuchNumber(t *testing.T) {
	for _, n := range wrongNumbers {
		for _, l := range []calls{
			nil,
			{},
			{{0, 1}},
			{{0, 1}, {1, 0}},
			{nil},
			{{0}},
			{{0, 1, 2}},
			{{-1, 0}},
			{{0, 0}},
			many([]int{0, 1}, 40),
			many([]int{0, 1}, 41),
			many(nil, 41),
			many([]int{3, 3}, 1000),
		} {
			isWrong(t, n, l, api.ErrRange)
		}
		planIs(t, n, nil, api.ErrRange)
	}
}

func TestMostCalls(t *testing.T) {
	r := rand.New(rand.NewPCG(15, 4))
	for n := 2; n <= 6; n++ {
		for range 100 {
			l := byChance(r, n, 40)
			isBy(t, n, l)
			// The last one counts as the others do.
			isBy(t, n, append(many([]int{0, 1}, 39), []int{n - 1, n - 2}))
			isWrong(t, n, append(l, []int{0, 1}), api.ErrFull)
		}
	}
}

// TestTooManyCalls has that come ahead of whatever is wrong with a call.
func TestTooManyCalls(t *testing.T) {
	for n := 1; n <= 6; n++ {
		for _, c := range [][]int{{0, 1}, {1, 0}, nil, {}, {0}, {0, 1, 2}, {-1, 0}, {0, n}, {0, 0}, {n, n}} {
			for _, times := range []int{41, 42, 80, 256, 100_000} {
				isWrong(t, n, many(c, times), api.ErrFull)
			}
			isWrong(t, n, append(calls{c}, many([]int{0, 1}, 40)...), api.ErrFull)
			isWrong(t, n, append(many([]int{0, 1}, 40), c), api.ErrFull)
		}
	}
}

// TestNotTwo has that come ahead of nodes that are wrong, or the same.
func TestNotTwo(t *testing.T) {
	for n := 1; n <= 6; n++ {
		for _, c := range [][]int{
			nil,
			{},
			{0},
			{n - 1},
			{n},
			{-1},
			{math.MinInt},
			{0, 1, 2},
			{0, 1, 0},
			{0, 0, 0},
			{0, 1, 1},
			{-1, 0, 1},
			{0, n, 1},
			{0, 1, n},
			{n, n, n},
			{0, 1, 2, 3},
			{0, 1, 0, 1},
			make([]int, 256),
			make([]int, 100_000),
		} {
			isWrong(t, n, calls{c}, api.ErrShape)
		}
	}
}

// TestNoSuchNode has that come ahead of two that are the same.
func TestNoSuchNode(t *testing.T) {
	for n := 1; n <= 6; n++ {
		for _, wrong := range wrongNodes(n) {
			for right := range n {
				isWrong(t, n, calls{{wrong, right}}, api.ErrRange)
				isWrong(t, n, calls{{right, wrong}}, api.ErrRange)
			}
			for _, other := range wrongNodes(n) {
				isWrong(t, n, calls{{wrong, other}}, api.ErrRange)
			}
		}
	}
}

func TestTheSame(t *testing.T) {
	for n := 1; n <= 6; n++ {
		for node := range n {
			isWrong(t, n, calls{{node, node}}, api.ErrShape)
		}
	}
}

// TestOneNodeHasNoCall as there is nobody else.
func TestOneNodeHasNoCall(t *testing.T) {
	playIs(t, 1, nil, []int{1}, api.OK)
	doneIs(t, 1, nil, true, api.OK)
	isWrong(t, 1, calls{{0, 0}}, api.ErrShape)
	isWrong(t, 1, calls{{0, 1}}, api.ErrRange)
	isWrong(t, 1, calls{{1, 0}}, api.ErrRange)
	isWrong(t, 1, calls{{1, 1}}, api.ErrRange)
}

// TestFirstFault has rows of each three of some calls, right ones and wrong ones: that of the first which has one is told.
func TestFirstFault(t *testing.T) {
	for n := 1; n <= 6; n++ {
		some := calls{{0, 1}, {n - 1, 0}, nil, {n}, {0, 1, n}, {-1, 0}, {0, n}, {-1, -1}, {0, 0}, {n - 1, n - 1}}
		for long := range 4 {
			eachRow(some, long, func(l calls) {
				i := slices.IndexFunc(l, func(c []int) bool { return faultOf(n, c) != api.OK })
				if i < 0 {
					isBy(t, n, l)
				} else {
					isWrong(t, n, l, faultOf(n, l[i]))
				}
			})
		}
	}
}

// TestFaultAnywhere has one wrong call at each place of rows up to the longest.
func TestFaultAnywhere(t *testing.T) {
	for n := 2; n <= 6; n++ {
		for _, c := range [][]int{nil, {0}, {0, 1, 0}, {-1, 0}, {0, n}, {1, 1}} {
			for at := range 40 {
				l := many([]int{0, 1}, 40)
				l[at] = c
				isWrong(t, n, l, faultOf(n, c))
				isWrong(t, n, l[:at+1], faultOf(n, c))
				isWrong(t, n, l[at:], faultOf(n, c))
			}
		}
	}
}

func TestPlansThatAreNamed(t *testing.T) {
	for n := 1; n <= 6; n++ {
		planIs(t, n, plans[n], api.OK)
	}
}

// TestByThePlanAllKnowAll also holds the number of its calls: twice as many as there are nodes, less four.
func TestByThePlanAllKnowAll(t *testing.T) {
	for n := 1; n <= 6; n++ {
		plan, err := gossip.Plan(n)
		if err != nil {
			t.Fatal(err)
		}
		doneIs(t, n, plan, true, api.OK)
		playIs(t, n, plan, slices.Repeat([]int{1<<n - 1}, n), api.OK)
		if n >= 4 && len(plan) != 2*n-4 {
			t.Errorf("Plan(%d): got %d calls, want %d", n, len(plan), 2*n-4)
		}
		for i := range plan {
			doneIs(t, n, slices.Delete(slices.Clone(plan), i, i+1), false, api.OK)
		}
	}
}

// TestPlanIsTheCallers writes into each list of an answer, as far as its memory goes: no other list may hold it.
func TestPlanIsTheCallers(t *testing.T) {
	for n := 1; n <= 6; n++ {
		other, _ := gossip.Plan(n)
		for i := range plans[n] {
			plan, _ := gossip.Plan(n)
			spoil(plan[i])
			for j, c := range plan {
				if j != i && !slices.Equal(c, plans[n][j]) {
					t.Errorf("Plan(%d): calls %d and %d share memory", n, i, j)
				}
			}
		}
		plan, _ := gossip.Plan(n)
		plan = plan[:cap(plan)]
		for i := range plan {
			plan[i] = []int{-5}
		}
		if !same(other, plans[n]) {
			t.Errorf("Plan(%d): two answers share memory", n)
		}
		planIs(t, n, plans[n], api.OK)
	}
}

// spoil writes into all of a list's memory.
func spoil(l []int) {
	l = l[:cap(l)]
	for i := range l {
		l[i] = -5
	}
}

func TestPlaysShareNothing(t *testing.T) {
	for n := 1; n <= 6; n++ {
		first, _ := gossip.Play(n, plans[n])
		second, _ := gossip.Play(n, plans[n])
		want := slices.Clone(second)
		spoil(first)
		if !slices.Equal(second, want) {
			t.Errorf("Play(%d): two answers share memory", n)
		}
		playIs(t, n, plans[n], want, api.OK)
		bare, _ := gossip.Play(n, nil)
		spoil(bare)
		playIs(t, n, nil, own(n), api.OK)
	}
}

// handed are such calls, with memory behind the length of each list.
func handed(l calls) calls {
	given := make(calls, 0, len(l)+1)
	for _, c := range l {
		given = append(given, append(slices.Clone(c), 77, 78)[:len(c)])
	}
	return append(given, []int{79})[:len(l)]
}

// memory is a copy of all that handed made.
func memory(given calls) calls {
	var all calls
	for _, c := range given {
		all = append(all, slices.Clone(c[:len(c)+2]))
	}
	return append(all, slices.Clone(given[:len(given)+1][len(given)]))
}

// TestCallsStay has calls that are right, and calls that are wrong.
func TestCallsStay(t *testing.T) {
	r := rand.New(rand.NewPCG(15, 5))
	for range 2000 {
		n := 1 + r.IntN(6)
		l := byChance(r, max(n, 2), r.IntN(43))
		if len(l) > 0 && r.IntN(3) == 0 {
			l[r.IntN(len(l))] = [][]int{nil, {0}, {0, 1, 2}, {-1, 0}, {0, n}, {0, 0}}[r.IntN(6)]
		}
		given := handed(l)
		before := memory(given)
		gossip.Play(n, given)
		gossip.Done(n, given)
		if !same(given, l) || !same(memory(given), before) {
			t.Fatalf("of %d nodes calls %v became %v", n, before, memory(given))
		}
	}
}

// TestBehindTheirLength has lists whose memory goes on with what would be wrong, or would count.
func TestBehindTheirLength(t *testing.T) {
	all := calls{{0, 1, 2}, {1, 2, -1}, {0, 0}}
	l := calls{all[0][:2], all[1][:2], all[2]}
	playIs(t, 3, l[:2], []int{3, 7, 7}, api.OK)
	playIs(t, 3, l[:1], []int{3, 3, 4}, api.OK)
	playIs(t, 3, l[:0], own(3), api.OK)
	isWrong(t, 3, calls{all[0][:1]}, api.ErrShape)
	isWrong(t, 3, calls{all[0][:0]}, api.ErrShape)
	isBy(t, 6, many([]int{0, 5}, 41)[:40])
}

// TestCallsAreNotKept writes into what was handed in: what was told stays, and what is told next goes by its own calls.
func TestCallsAreNotKept(t *testing.T) {
	given := calls{{0, 1}, {1, 2}}
	known, _ := gossip.Play(3, given)
	given[0][0], given[1] = 2, []int{2, 0}
	if !slices.Equal(known, []int{3, 7, 7}) {
		t.Errorf("Play: what it told became %v", known)
	}
	playIs(t, 3, given, []int{7, 6, 7}, api.OK)
	playIs(t, 3, nil, own(3), api.OK)
}

// TestOneListManyTimes hands in calls that share their memory.
func TestOneListManyTimes(t *testing.T) {
	two := []int{0, 1, 2}
	playIs(t, 3, calls{two[:2], two[1:], two[:2]}, []int{7, 7, 7}, api.OK)
	doneIs(t, 3, calls{two[:2], two[1:], two[:2]}, true, api.OK)
	if !slices.Equal(two, []int{0, 1, 2}) {
		t.Errorf("what was handed in became %v", two)
	}
}

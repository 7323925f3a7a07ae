package probe_test

import (
	"math"
	"slices"
	"testing"

	"beaconmere/api"
	"beaconmere/plain"
	"beaconmere/probe"
)

var wrongNumbers = []int{1, 0, -1, -2, 7, 8, -6, 60, 256, 1 << 32, 1<<32 + 2, math.MinInt, math.MinInt + 1, math.MaxInt}

var wrongTurns = []int{-1, 61, -2, -60, 62, 119, 120, 256, 1 << 32, 1<<32 + 1, math.MinInt, math.MinInt + 1, math.MaxInt - 1, math.MaxInt}

// wrongNodes of n are no such nodes, those at the edges first.
func wrongNodes(n int) []int {
	return []int{-1, n, n + 1, -n, 2 * n, 6, 7, 60, 256, 1 << 32, 1<<32 + 1, math.MinInt, math.MinInt + 1, math.MaxInt - 1, math.MaxInt}
}

// each calls with each number of nodes, and each of them.
func each(do func(me, n int)) {
	for n := 2; n <= 6; n++ {
		for me := range n {
			do(me, n)
		}
	}
}

// rowByRule goes from node to node, step by step, and passes over itself.
func rowByRule(me, n, many int) []int {
	var row []int
	at := me
	for len(row) < many {
		at++
		if at == n {
			at = 0
		}
		if at != me {
			row = append(row, at)
		}
	}
	return row
}

func targetIs(t *testing.T, me, n, turn, want int, wantErr api.Errno) {
	t.Helper()
	if node, err := probe.Target(me, n, turn); node != want || plain.Told(err) != wantErr {
		t.Errorf("Target(%d, %d, %d): got %d, %v, want %d, %v", me, n, turn, node, err, want, wantErr)
	}
}

func rowIs(t *testing.T, me, n, turn, many int, want []int, wantErr api.Errno) {
	t.Helper()
	row, err := probe.Row(me, n, turn, many)
	if !slices.Equal(row, want) || plain.Told(err) != wantErr {
		t.Errorf("Row(%d, %d, %d, %d): got %v, %v, want %v, %v", me, n, turn, many, row, err, want, wantErr)
	}
}

func whenIs(t *testing.T, me, n, node, want int, wantErr api.Errno) {
	t.Helper()
	if turn, err := probe.When(me, n, node); turn != want || plain.Told(err) != wantErr {
		t.Errorf("When(%d, %d, %d): got %d, %v, want %d, %v", me, n, node, turn, err, want, wantErr)
	}
}

// allIsRange has each call with a me and an n that are wrong, whatever stands beside.
func allIsRange(t *testing.T, me, n int) {
	t.Helper()
	for _, turn := range append([]int{0, 1, 59, 60}, wrongTurns...) {
		targetIs(t, me, n, turn, 0, api.ErrRange)
		for _, many := range append([]int{0, 1, 60}, wrongTurns...) {
			rowIs(t, me, n, turn, many, nil, api.ErrRange)
		}
	}
	for _, node := range append([]int{0, 1, 2, 3, 4, 5, me}, wrongNodes(n)...) {
		whenIs(t, me, n, node, 0, api.ErrRange)
	}
}

func TestRoundsThatAreKnown(t *testing.T) {
	for _, c := range []struct {
		me, n int
		round []int
	}{
		{0, 2, []int{1}},
		{1, 2, []int{0}},
		{0, 3, []int{1, 2}},
		{1, 3, []int{2, 0}},
		{2, 3, []int{0, 1}},
		{0, 4, []int{1, 2, 3}},
		{1, 4, []int{2, 3, 0}},
		{2, 4, []int{3, 0, 1}},
		{3, 4, []int{0, 1, 2}},
		{0, 5, []int{1, 2, 3, 4}},
		{1, 5, []int{2, 3, 4, 0}},
		{2, 5, []int{3, 4, 0, 1}},
		{3, 5, []int{4, 0, 1, 2}},
		{4, 5, []int{0, 1, 2, 3}},
		{0, 6, []int{1, 2, 3, 4, 5}},
		{1, 6, []int{2, 3, 4, 5, 0}},
		{2, 6, []int{3, 4, 5, 0, 1}},
		{3, 6, []int{4, 5, 0, 1, 2}},
		{4, 6, []int{5, 0, 1, 2, 3}},
		{5, 6, []int{0, 1, 2, 3, 4}},
	} {
		for turn, node := range c.round {
			targetIs(t, c.me, c.n, turn, node, api.OK)
			targetIs(t, c.me, c.n, turn+len(c.round), node, api.OK)
			whenIs(t, c.me, c.n, node, turn, api.OK)
		}
		rowIs(t, c.me, c.n, 0, len(c.round), c.round, api.OK)
		rowIs(t, c.me, c.n, 0, 2*len(c.round), append(slices.Clone(c.round), c.round...), api.OK)
	}
}

func TestLastTurnsThatAreKnown(t *testing.T) {
	targetIs(t, 0, 2, 60, 1, api.OK)
	targetIs(t, 1, 3, 60, 2, api.OK)
	targetIs(t, 1, 3, 59, 0, api.OK)
	targetIs(t, 3, 4, 60, 0, api.OK)
	targetIs(t, 3, 4, 59, 2, api.OK)
	targetIs(t, 2, 5, 60, 3, api.OK)
	targetIs(t, 2, 5, 59, 1, api.OK)
	targetIs(t, 5, 6, 60, 0, api.OK)
	targetIs(t, 5, 6, 59, 4, api.OK)
	rowIs(t, 2, 5, 60, 6, []int{3, 4, 0, 1, 3, 4}, api.OK)
	rowIs(t, 4, 6, 58, 5, []int{2, 3, 5, 0, 1}, api.OK)
}

func TestEachTurnOfEachNode(t *testing.T) {
	each(func(me, n int) {
		for turn, node := range rowByRule(me, n, 61) {
			targetIs(t, me, n, turn, node, api.OK)
		}
	})
}

// TestEachOnceInEachRound begins a round at each turn.
func TestEachOnceInEachRound(t *testing.T) {
	each(func(me, n int) {
		for turn := range 61 {
			round, err := probe.Row(me, n, turn, n-1)
			if err != nil {
				t.Fatal(err)
			}
			slices.Sort(round)
			others := slices.DeleteFunc([]int{0, 1, 2, 3, 4, 5}[:n], func(node int) bool { return node == me })
			if !slices.Equal(round, others) {
				t.Errorf("node %d of %d asks %v in the round from turn %d on, want %v", me, n, round, turn, others)
			}
		}
	})
}

// TestEachRowOfEachNode has each first turn and each number of turns: many of them go on behind the last turn that Target takes.
func TestEachRowOfEachNode(t *testing.T) {
	each(func(me, n int) {
		all := rowByRule(me, n, 120)
		for turn := range 61 {
			for many := range 61 {
				rowIs(t, me, n, turn, many, all[turn:turn+many], api.OK)
			}
		}
	})
}

func TestRowOfNoTurn(t *testing.T) {
	each(func(me, n int) {
		rowIs(t, me, n, 0, 0, nil, api.OK)
		rowIs(t, me, n, 60, 0, nil, api.OK)
	})
}

// TestRowIsTargetTurnByTurn has rows up to the last turn that Target takes.
func TestRowIsTargetTurnByTurn(t *testing.T) {
	each(func(me, n int) {
		for turn := range 61 {
			many := min(60, 61-turn)
			row, err := probe.Row(me, n, turn, many)
			if len(row) != many || err != nil {
				t.Fatalf("Row(%d, %d, %d, %d): got %v, %v", me, n, turn, many, row, err)
			}
			for i, node := range row {
				targetIs(t, me, n, turn+i, node, api.OK)
			}
		}
	})
}

func TestWhenIsTheFirstTurnOfTarget(t *testing.T) {
	each(func(me, n int) {
		for node := range n {
			if node == me {
				continue
			}
			first := 0
			for {
				asked, err := probe.Target(me, n, first)
				if err != nil {
					t.Fatal(err)
				}
				if asked == node {
					break
				}
				first++
			}
			whenIs(t, me, n, node, first, api.OK)
			if turn, _ := probe.When(me, n, node); turn > n-2 {
				t.Errorf("When(%d, %d, %d): %d lies behind the first round", me, n, node, turn)
			}
		}
	})
}

func TestWhenItIsMe(t *testing.T) {
	each(func(me, n int) {
		whenIs(t, me, n, me, 0, api.ErrNone)
		for turn := range 61 {
			if node, _ := probe.Target(me, n, turn); node == me {
				t.Errorf("node %d of %d asks itself at turn %d", me, n, turn)
			}
		}
	})
}

func TestNoSuchNumberOfNodes(t *testing.T) {
	for _, n := range wrongNumbers {
		for _, me := range append([]int{0, 1, 5}, wrongNodes(n)...) {
			allIsRange(t, me, n)
		}
	}
}

// TestMeIsNoSuchNode also asks when it asks itself: that there is no such node comes first.
func TestMeIsNoSuchNode(t *testing.T) {
	for n := 2; n <= 6; n++ {
		for _, me := range wrongNodes(n) {
			if me < 0 || me >= n {
				allIsRange(t, me, n)
			}
		}
	}
}

func TestNoSuchTurn(t *testing.T) {
	each(func(me, n int) {
		for _, turn := range wrongTurns {
			targetIs(t, me, n, turn, 0, api.ErrRange)
			for _, many := range append([]int{0, 1, 59, 60}, wrongTurns...) {
				rowIs(t, me, n, turn, many, nil, api.ErrRange)
			}
		}
	})
}

func TestNoSuchNumberOfTurns(t *testing.T) {
	each(func(me, n int) {
		for _, many := range wrongTurns {
			for turn := range 61 {
				rowIs(t, me, n, turn, many, nil, api.ErrRange)
			}
		}
	})
}

func TestWhenOfNoSuchNode(t *testing.T) {
	each(func(me, n int) {
		for _, node := range wrongNodes(n) {
			if node < 0 || node >= n {
				whenIs(t, me, n, node, 0, api.ErrRange)
			}
		}
	})
}

// TestRowsShareNothing writes into all of an answer's memory.
func TestRowsShareNothing(t *testing.T) {
	each(func(me, n int) {
		for many := range 61 {
			first, _ := probe.Row(me, n, 3, many)
			second, _ := probe.Row(me, n, 3, many)
			want := slices.Clone(second)
			first = first[:cap(first)]
			for i := range first {
				first[i] = -5
			}
			if !slices.Equal(second, want) {
				t.Errorf("two answers of Row share memory")
			}
			rowIs(t, me, n, 3, many, want, api.OK)
		}
	})
}

package ring_test

import (
	"fmt"
	"hash/fnv"
	"math"
	"math/rand/v2"
	"slices"
	"testing"

	"beaconmere/api"
	"beaconmere/plain"
	"beaconmere/ring"
)

type points = []api.Point

var everyNode = []int{0, 1, 2, 3, 4, 5}

var wrongNodes = []int{-1, 6, 7, -6, 255, 256, 1 << 32, math.MinInt, math.MaxInt}

var wrongEach = []int{0, 9, -1, -8, 10, 256, 1 << 32, 1<<32 + 1, math.MinInt, math.MaxInt}

var wrongKeys = []int{-1, 8, 9, -8, 255, 256, 1 << 32, math.MinInt, math.MaxInt}

var wrongMany = []int{0, 7, -1, -6, 8, 48, 256, 1 << 32, 1<<32 + 1, math.MinInt, math.MaxInt}

// ownPlaces are those of the keys.
var ownPlaces = []int{16, 232, 244, 44, 176, 136, 108, 196}

// placeByRule works out by the library where two numbers lie on the ring.
func placeByRule(a, b int) int {
	h := fnv.New32a()
	fmt.Fprintf(h, "%d/%d", a, b)
	return int(h.Sum32() % 256)
}

// pointsByRule goes over all points that may be, in their order, and takes those that some node has.
func pointsByRule(nodes []int, each int) points {
	var l points
	for place := range 256 {
		for node := range api.Nodes {
			has := func(i int) bool { return placeByRule(node, i) == place }
			if slices.Contains(nodes, node) && slices.ContainsFunc([]int{0, 1, 2, 3, 4, 5, 6, 7}[:each], has) {
				l = append(l, api.Point{At: place, Node: node})
			}
		}
	}
	return l
}

// ownersByRule goes from the key's own place on, place by place, once round about.
func ownersByRule(l points, key int) []int {
	var owners []int
	for step := range 256 {
		place := (placeByRule(key, key) + step) % 256
		for node := range api.Nodes {
			if slices.Contains(l, api.Point{At: place, Node: node}) && !slices.Contains(owners, node) {
				owners = append(owners, node)
			}
		}
	}
	return owners
}

// nodesOf gives the nodes whose bits are set, rising.
func nodesOf(bits int) []int {
	var nodes []int
	for node := range api.Nodes {
		if bits>>node&1 == 1 {
			nodes = append(nodes, node)
		}
	}
	return nodes
}

// rising is so many points that are right, one a place.
func rising(many int) points {
	var l points
	for i := range many {
		l = append(l, api.Point{At: i, Node: i % api.Nodes})
	}
	return l
}

// at is points, of pairs of a place and a node.
func at(pairs ...int) points {
	var l points
	for pair := range slices.Chunk(pairs, 2) {
		l = append(l, api.Point{At: pair[0], Node: pair[1]})
	}
	return l
}

// with is a copy of points in which one is another one.
func with(l points, i int, p api.Point) points {
	l = slices.Clone(l)
	l[i] = p
	return l
}

func pointsAre(t *testing.T, nodes []int, each int, want points, wantErr api.Errno) {
	t.Helper()
	l, err := ring.Points(nodes, each)
	if !slices.Equal(l, want) || plain.Told(err) != wantErr {
		t.Errorf("Points(%v, %d): got %v, %v, want %v, %v", nodes, each, l, err, want, wantErr)
	}
}

func ownerIs(t *testing.T, l points, key, want int, wantErr api.Errno) {
	t.Helper()
	if n, err := ring.Owner(l, key); n != want || plain.Told(err) != wantErr {
		t.Errorf("Owner(%v, %d): got %d, %v, want %d, %v", l, key, n, err, want, wantErr)
	}
}

func ownersAre(t *testing.T, l points, key, many int, want []int, wantErr api.Errno) {
	t.Helper()
	n, err := ring.Owners(l, key, many)
	if !slices.Equal(n, want) || plain.Told(err) != wantErr {
		t.Errorf("Owners(%v, %d, %d): got %v, %v, want %v, %v", l, key, many, n, err, want, wantErr)
	}
}

// allIsByRule checks the owner of each key, and each number of owners.
func allIsByRule(t *testing.T, l points) {
	t.Helper()
	for key := range api.Keys {
		owners := ownersByRule(l, key)
		ownerIs(t, l, key, owners[0], api.OK)
		for many := 1; many <= api.Nodes; many++ {
			if many <= len(owners) {
				ownersAre(t, l, key, many, owners[:many], api.OK)
			} else {
				ownersAre(t, l, key, many, nil, api.ErrNone)
			}
		}
	}
}

// madeByHand are points that are right, though Points gives none of them: the edges, and more than one node at a place.
var madeByHand = []points{
	at(0, 0),
	at(0, 5),
	at(255, 0),
	at(255, 5),
	at(0, 3, 255, 2),
	at(0, 2, 0, 3),
	at(243, 1, 244, 2, 245, 3),
	at(16, 0, 16, 1, 16, 2, 16, 3, 16, 4, 16, 5),
	at(15, 5, 16, 3, 16, 4, 17, 0),
	at(9, 4, 10, 4, 11, 4),
	at(100, 1, 136, 1, 137, 1, 138, 0, 139, 1),
	rising(2),
	rising(47),
	rising(48),
}

// notRight are points that could be those of no ring.
var notRight = []points{
	nil,
	{},
	rising(49),
	rising(256),
	make(points, 49),
	make(points, 100_000),

	at(-1, 0),
	at(256, 0),
	at(math.MinInt, 0),
	at(math.MaxInt, 0),
	at(1<<32, 0),
	at(0, -1),
	at(0, 6),
	at(0, math.MinInt),
	at(0, math.MaxInt),
	at(0, 1<<32),
	at(-1, 0, 16, 1),
	at(16, 0, 256, 1),
	at(16, 0, 17, 6),
	at(16, -1, 16, 0),
	at(16, 5, 16, 6),

	at(16, 0, 15, 0),
	at(16, 0, 15, 1),
	at(255, 1, 0, 2),
	at(16, 1, 16, 0),
	at(16, 0, 18, 0, 17, 0),
	at(16, 0, 16, 2, 16, 1),

	at(16, 1, 16, 1),
	at(0, 0, 0, 0),
	at(16, 0, 17, 1, 17, 1),
	make(points, 48),

	with(rising(48), 0, api.Point{At: 0, Node: 6}),
	with(rising(48), 47, api.Point{At: 47, Node: 6}),
	with(rising(48), 47, api.Point{At: 256, Node: 0}),
	with(rising(48), 47, api.Point{At: 45, Node: 5}),
	with(rising(48), 47, api.Point{At: 46, Node: 4}),
}

func TestPointsThatAreKnown(t *testing.T) {
	pointsAre(t, []int{3, 5}, 1, at(103, 5, 229, 3), api.OK)
	pointsAre(t, []int{2}, 2, at(26, 2, 173, 2), api.OK)
	pointsAre(t, []int{4, 5, 1, 0}, 2, at(16, 0, 103, 5, 123, 1, 143, 4, 163, 0, 212, 5, 232, 1, 252, 4), api.OK)
}

func TestPointsOfOneNode(t *testing.T) {
	for node := range api.Nodes {
		pointsAre(t, []int{node}, 1, at(placeByRule(node, 0), node), api.OK)
		for each := 1; each <= 8; each++ {
			pointsAre(t, []int{node}, each, pointsByRule([]int{node}, each), api.OK)
		}
	}
}

// TestPointsOfEachNodes has each choice of nodes, each number of points, and more than one order: which one does not count.
func TestPointsOfEachNodes(t *testing.T) {
	for bits := 1; bits < 64; bits++ {
		nodes := nodesOf(bits)
		back := slices.Clone(nodes)
		slices.Reverse(back)
		turned := append(slices.Clone(nodes[1:]), nodes[0])
		for each := 1; each <= 8; each++ {
			want := pointsByRule(nodes, each)
			pointsAre(t, nodes, each, want, api.OK)
			pointsAre(t, back, each, want, api.OK)
			pointsAre(t, turned, each, want, api.OK)
		}
	}
}

func TestPointsRiseAndEachIsThereOnce(t *testing.T) {
	for bits := 1; bits < 64; bits++ {
		for each := 1; each <= 8; each++ {
			l, err := ring.Points(nodesOf(bits), each)
			if err != nil {
				t.Fatal(err)
			}
			for i, p := range l[1:] {
				if ahead := l[i]; ahead.At > p.At || ahead.At == p.At && ahead.Node >= p.Node {
					t.Errorf("Points(%v, %d): %v does not rise above %v", nodesOf(bits), each, p, ahead)
				}
			}
		}
	}
}

func TestAllPointsAre48(t *testing.T) {
	l, err := ring.Points(everyNode, 8)
	if len(l) != 48 || err != nil {
		t.Errorf("got %d points, %v, want 48", len(l), err)
	}
}

func TestPointsOfNoNode(t *testing.T) {
	for _, each := range append([]int{1, 8}, wrongEach...) {
		pointsAre(t, nil, each, nil, api.ErrNone)
		pointsAre(t, []int{}, each, nil, api.ErrNone)
	}
}

// TestPointsOfTooManyNodes holds it against all that may be wrong beside.
func TestPointsOfTooManyNodes(t *testing.T) {
	for _, each := range append([]int{1, 8}, wrongEach...) {
		for _, nodes := range [][]int{
			{0, 1, 2, 3, 4, 5, 0},
			{0, 1, 2, 3, 4, 5, 6},
			{-1, 0, 1, 2, 3, 4, 5},
			make([]int, 7),
			make([]int, 100_000),
		} {
			pointsAre(t, nodes, each, nil, api.ErrFull)
		}
	}
}

func TestPointsOfNodesThatAreNone(t *testing.T) {
	for _, wrong := range wrongNodes {
		for _, each := range append([]int{1, 8}, wrongEach...) {
			pointsAre(t, []int{wrong}, each, nil, api.ErrRange)
			pointsAre(t, []int{wrong, wrong}, each, nil, api.ErrRange)
			pointsAre(t, []int{0, 1, 2, 3, 4, wrong}, each, nil, api.ErrRange)
		}
	}
}

func TestPointsOfANodeThatWasThereAhead(t *testing.T) {
	for _, each := range append([]int{1, 8}, wrongEach...) {
		for node := range api.Nodes {
			pointsAre(t, []int{node, node}, each, nil, api.ErrClash)
		}
		pointsAre(t, []int{0, 1, 0}, each, nil, api.ErrClash)
		pointsAre(t, []int{5, 4, 3, 2, 1, 5}, each, nil, api.ErrClash)
		pointsAre(t, []int{5, 4, 3, 2, 1, 1}, each, nil, api.ErrClash)
	}
}

func TestOfSeveralNodesTheFirstFaultIsTold(t *testing.T) {
	for _, wrong := range wrongNodes {
		pointsAre(t, []int{2, 2, wrong}, 1, nil, api.ErrClash)
		pointsAre(t, []int{2, wrong, 2}, 1, nil, api.ErrRange)
		pointsAre(t, []int{wrong, 2, 2}, 1, nil, api.ErrRange)
		pointsAre(t, []int{2, 3, 2, wrong, wrong}, 9, nil, api.ErrClash)
	}
}

func TestPointsOfAWrongNumber(t *testing.T) {
	for _, each := range wrongEach {
		for bits := 1; bits < 64; bits++ {
			pointsAre(t, nodesOf(bits), each, nil, api.ErrRange)
		}
	}
}

func TestOwnPlacesAreKnown(t *testing.T) {
	for key, own := range ownPlaces {
		ownerIs(t, at(own-1, 1, own, 2, own+1, 3), key, 2, api.OK)
		ownerIs(t, at(own-1, 1, own+1, 3), key, 3, api.OK)
		ownerIs(t, at(own, 1, own, 2), key, 1, api.OK)
	}
}

func TestBehindTheLastPointTheFirstOneOwns(t *testing.T) {
	for key, own := range ownPlaces {
		l := at(0, 4, 1, 3, own-1, 5)
		ownerIs(t, l, key, 4, api.OK)
		ownersAre(t, l, key, 3, []int{4, 3, 5}, api.OK)
		ownerIs(t, at(0, 2), key, 2, api.OK)
	}
}

func TestOwnersThatAreKnown(t *testing.T) {
	l, _ := ring.Points([]int{0, 4, 3, 2}, 3)
	ownersAre(t, l, 7, 4, []int{3, 2, 4, 0}, api.OK)
	l, _ = ring.Points([]int{0, 3, 5, 2, 1}, 1)
	ownersAre(t, l, 5, 4, []int{3, 0, 2, 5}, api.OK)
	l, _ = ring.Points([]int{5, 2, 0}, 2)
	ownersAre(t, l, 1, 256, nil, api.ErrRange)
	l, _ = ring.Points([]int{2, 1}, 3)
	ownersAre(t, l, 4, 3, nil, api.ErrNone)
}

func TestOwnersOfEachPoints(t *testing.T) {
	for bits := 1; bits < 64; bits++ {
		for each := 1; each <= 8; each++ {
			l, err := ring.Points(nodesOf(bits), each)
			if err != nil {
				t.Fatal(err)
			}
			allIsByRule(t, l)
		}
	}
}

func TestOwnersOfPointsMadeByHand(t *testing.T) {
	for _, l := range madeByHand {
		allIsByRule(t, l)
	}
}

// TestOwnersOfSomePoints takes some of all points that may be, always the same ones.
func TestOwnersOfSomePoints(t *testing.T) {
	from := rand.New(rand.NewPCG(9, 26))
	for range 1000 {
		var l points
		left := 1 + from.IntN(48)
		least := from.IntN(256)
		for n := least * api.Nodes; n < 256*api.Nodes && left > 0; n += 1 + from.IntN(40) {
			l = append(l, api.Point{At: n / api.Nodes, Node: n % api.Nodes})
			left--
		}
		allIsByRule(t, l)
	}
}

func TestANodeWithManyPointsIsToldOnce(t *testing.T) {
	l := at(16, 1, 17, 1, 18, 2, 19, 1, 20, 2, 21, 0, 22, 1)
	ownersAre(t, l, 0, 1, []int{1}, api.OK)
	ownersAre(t, l, 0, 2, []int{1, 2}, api.OK)
	ownersAre(t, l, 0, 3, []int{1, 2, 0}, api.OK)
	ownersAre(t, l, 0, 4, nil, api.ErrNone)
}

func TestOwnersOfPointsThatAreNotRight(t *testing.T) {
	for _, l := range notRight {
		for key := range api.Keys {
			ownerIs(t, l, key, 0, api.ErrShape)
			for many := 1; many <= api.Nodes; many++ {
				ownersAre(t, l, key, many, nil, api.ErrShape)
			}
		}
	}
}

func TestPointsThatAreNotRightComeFirst(t *testing.T) {
	for _, l := range notRight {
		for _, key := range wrongKeys {
			ownerIs(t, l, key, 0, api.ErrShape)
			ownersAre(t, l, key, 1, nil, api.ErrShape)
			ownersAre(t, l, key, 0, nil, api.ErrShape)
		}
		for _, many := range wrongMany {
			ownersAre(t, l, 0, many, nil, api.ErrShape)
		}
	}
}

// TestNoSuchKey also has it beside numbers of owners that are wrong, or too many.
func TestNoSuchKey(t *testing.T) {
	for _, l := range madeByHand {
		for _, key := range wrongKeys {
			ownerIs(t, l, key, 0, api.ErrRange)
			for _, many := range append([]int{1, 2, 3, 4, 5, 6}, wrongMany...) {
				ownersAre(t, l, key, many, nil, api.ErrRange)
			}
		}
	}
}

// TestNoSuchNumberOfOwners also has rings of fewer nodes, of which there are not so many, either.
func TestNoSuchNumberOfOwners(t *testing.T) {
	for _, l := range madeByHand {
		for key := range api.Keys {
			for _, many := range wrongMany {
				ownersAre(t, l, key, many, nil, api.ErrRange)
			}
		}
	}
}

func TestMoreOwnersThanThereAre(t *testing.T) {
	for bits := 1; bits < 64; bits++ {
		nodes := nodesOf(bits)
		l, _ := ring.Points(nodes, 8)
		for key := range api.Keys {
			for many := len(nodes) + 1; many <= api.Nodes; many++ {
				ownersAre(t, l, key, many, nil, api.ErrNone)
			}
		}
	}
}

// TestWhoComesTakesOnlyForHimself has each node come to each choice of others.
func TestWhoComesTakesOnlyForHimself(t *testing.T) {
	for bits := 1; bits < 64; bits++ {
		for node := range api.Nodes {
			for each := 1; each <= 8; each++ {
				ahead, _ := ring.Points(nodesOf(bits), each)
				behind, _ := ring.Points(nodesOf(bits|1<<node), each)
				for key := range api.Keys {
					was, _ := ring.Owner(ahead, key)
					is, err := ring.Owner(behind, key)
					if err != nil || is != was && is != node {
						t.Errorf("node %d comes to %v, %d each: key %d was of %d, is of %d, %v", node, nodesOf(bits), each, key, was, is, err)
					}
				}
			}
		}
	}
}

// roomy is a copy of a list that has room behind it, and something in that room.
func roomy[T any](l []T, behind T) []T {
	long := append(slices.Clone(l), behind, behind)
	return long[:len(l)]
}

// kept checks that a list, and what lies behind it, are as roomy made them.
func kept[T comparable](t *testing.T, got, made []T, behind T) {
	t.Helper()
	if want := append(slices.Clone(made), behind, behind); !slices.Equal(got[:len(want)], want) {
		t.Errorf("a list was written into: got %v, want %v", got[:len(want)], want)
	}
}

// spoil writes into all of an answer's memory.
func spoil[T any](l []T, with T) {
	l = l[:cap(l)]
	for i := range l {
		l[i] = with
	}
}

func TestPointsWritesIntoNothing(t *testing.T) {
	for _, nodes := range [][]int{nil, {5}, {3, 1, 2}, {5, 4, 3, 2, 1, 0}, {5, 4, 5}, {5, 9}, {6, 5, 4, 3, 2, 1, 0}} {
		for each := range 10 {
			in := roomy(nodes, 77)
			first, _ := ring.Points(in, each)
			second, err := ring.Points(in, each)
			kept(t, in, nodes, 77)
			want := slices.Clone(second)
			spoil(first, api.Point{At: -5, Node: -5})
			if !slices.Equal(second, want) {
				t.Errorf("two answers of Points share memory")
			}
			pointsAre(t, nodes, each, want, plain.Told(err))
		}
	}
}

func TestOwnersWritesIntoNothing(t *testing.T) {
	behind := api.Point{At: 255, Node: 5}
	for _, l := range append(slices.Clone(madeByHand), notRight...) {
		for key := range api.Keys + 1 {
			for many := range api.Nodes + 2 {
				in := roomy(l, behind)
				n, bad := ring.Owner(in, key)
				first, _ := ring.Owners(in, key, many)
				second, err := ring.Owners(in, key, many)
				kept(t, in, l, behind)
				want := slices.Clone(second)
				spoil(first, -5)
				if !slices.Equal(second, want) {
					t.Errorf("two answers of Owners share memory")
				}
				ownerIs(t, l, key, n, plain.Told(bad))
				ownersAre(t, l, key, many, want, plain.Told(err))
			}
		}
	}
}

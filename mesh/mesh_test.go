package mesh_test

import (
	"math"
	"math/rand/v2"
	"slices"
	"strings"
	"testing"

	"beaconmere/api"
	"beaconmere/entry"
	"beaconmere/mesh"
	"beaconmere/plain"
	"beaconmere/store"
	"beaconmere/swap"
)

type list = []api.Entry

type shelf = [][]api.Entry

var wrongKeys = []int{-1, 8, 9, -8, 255, 256, 1 << 32, math.MinInt, math.MaxInt}

var texts = []string{"", "a", "b", "tea", "\x00\xff\n ", "abcdefghijkl"}

var longTexts = []string{"abcdefghijklm", strings.Repeat("a", 256), strings.Repeat("a", 1<<16)}

// wrongNodes are none of n nodes.
func wrongNodes(n int) []int {
	return []int{-1, n, n + 1, -n, n + 6, 256, 1 << 32, 1<<32 + n - 1, math.MinInt, math.MaxInt}
}

// wrongFloors are none where so much was done.
func wrongFloors(seq int) []int {
	return []int{-1, -2, seq + 1, seq + 2, 1001, 1 << 32, math.MinInt, math.MaxInt}
}

// has makes an entry with a text.
func has(key, version, asOf int, text string) api.Entry {
	return api.Entry{Key: key, Version: version, AsOf: asOf, Text: text}
}

// gone makes an entry of a key that is Gone.
func gone(key, version, asOf int) api.Entry {
	return api.Entry{Key: key, Version: version, AsOf: asOf, Gone: true}
}

// made is a new mesh.
func made(t *testing.T, n int) *mesh.Mesh {
	t.Helper()
	m, err := mesh.New(n)
	if err != nil || m == nil {
		t.Fatalf("New(%d): got %v, %v", n, m, err)
	}
	return m
}

func puts(t *testing.T, m *mesh.Mesh, node, key int, text string, want int, wantErr api.Errno) {
	t.Helper()
	if n, err := m.Put(node, key, text); n != want || plain.Told(err) != wantErr {
		t.Errorf("Put(%d, %d, %.20q): got %d, %v, want %d, %v", node, key, text, n, err, want, wantErr)
	}
}

func deletes(t *testing.T, m *mesh.Mesh, node, key, want int, wantErr api.Errno) {
	t.Helper()
	if n, err := m.Delete(node, key); n != want || plain.Told(err) != wantErr {
		t.Errorf("Delete(%d, %d): got %d, %v, want %d, %v", node, key, n, err, want, wantErr)
	}
}

func gets(t *testing.T, m *mesh.Mesh, node, key, floor int, want api.Entry, wantIs bool, wantErr api.Errno) {
	t.Helper()
	if e, is, err := m.Get(node, key, floor); e != want || is != wantIs || plain.Told(err) != wantErr {
		t.Errorf("Get(%d, %d, %d): got %+v, %v, %v, want %+v, %v, %v", node, key, floor, e, is, err, want, wantIs, wantErr)
	}
}

// ofCache has a Get be of the node's cache.
func ofCache(t *testing.T, m *mesh.Mesh, node, key, floor int, want api.Entry) {
	t.Helper()
	gets(t, m, node, key, floor, want, true, api.OK)
}

// ofStore has a Get be of the store.
func ofStore(t *testing.T, m *mesh.Mesh, node, key, floor int, want api.Entry) {
	t.Helper()
	gets(t, m, node, key, floor, want, false, api.OK)
}

func swaps(t *testing.T, m *mesh.Mesh, a, b int, want api.Errno) {
	t.Helper()
	if err := m.Swap(a, b); plain.Told(err) != want {
		t.Errorf("Swap(%d, %d): got %v, want %v", a, b, err, want)
	}
}

func tells(t *testing.T, m *mesh.Mesh, key, seq int, want api.Entry, wantErr api.Errno) {
	t.Helper()
	if e, err := m.At(key, seq); e != want || plain.Told(err) != wantErr {
		t.Errorf("At(%d, %d): got %+v, %v, want %+v, %v", key, seq, e, err, want, wantErr)
	}
}

// cached checks a node's cache.
func cached(t *testing.T, m *mesh.Mesh, node int, want ...api.Entry) {
	t.Helper()
	if l, err := m.Cache(node); !slices.Equal(l, want) || err != nil {
		t.Errorf("Cache(%d): got %+v, %v, want %+v", node, l, err, want)
	}
}

// stands checks how much was done, and the cache of each node, of which there are so many.
func stands(t *testing.T, m *mesh.Mesh, seq int, caches ...list) {
	t.Helper()
	if n := m.Seq(); n != seq {
		t.Errorf("Seq: got %d, want %d", n, seq)
	}
	for node, l := range caches {
		cached(t, m, node, l...)
	}
	if l, err := m.Cache(len(caches)); l != nil || plain.Told(err) != api.ErrRange {
		t.Errorf("Cache(%d): got %+v, %v, want ErrRange", len(caches), l, err)
	}
}

// all is each node's cache.
func all(t *testing.T, m *mesh.Mesh, n int) shelf {
	t.Helper()
	var caches shelf
	for node := range n {
		l, err := m.Cache(node)
		if err != nil {
			t.Fatalf("Cache(%d): got %v", node, err)
		}
		caches = append(caches, l)
	}
	return caches
}

// past is what the store tells of each key at the first and last numbers.
func past(t *testing.T, m *mesh.Mesh) list {
	t.Helper()
	var l list
	for seq := range m.Seq() + 1 {
		if seq > 20 && seq < m.Seq()-20 {
			continue
		}
		for key := range api.Keys {
			e, err := m.At(key, seq)
			if err != nil {
				t.Fatalf("At(%d, %d): got %v", key, seq, err)
			}
			l = append(l, e)
		}
	}
	return l
}

// unchanged has some calls change nothing that could be told of a mesh of n nodes.
func unchanged(t *testing.T, m *mesh.Mesh, n int, calls func()) {
	t.Helper()
	seq, caches, were := m.Seq(), all(t, m, n), past(t, m)
	calls()
	stands(t, m, seq, caches...)
	if now := past(t, m); !slices.Equal(now, were) {
		t.Errorf("the store's past: got %+v, want %+v", now, were)
	}
}

func TestNew(t *testing.T) {
	for n := 1; n <= 6; n++ {
		m := made(t, n)
		stands(t, m, 0, make(shelf, n)...)
		for key := range api.Keys {
			tells(t, m, key, 0, gone(key, 0, 0), api.OK)
		}
	}
}

func TestNewIsRefused(t *testing.T) {
	for _, n := range []int{0, 7, -1, -6, 8, 256, 257, 1 << 32, 1<<32 + 1, math.MinInt, math.MaxInt} {
		if m, err := mesh.New(n); m != nil || plain.Told(err) != api.ErrRange {
			t.Errorf("New(%d): got %v, %v, want ErrRange", n, m, err)
		}
	}
}

func TestCacheIsRefused(t *testing.T) {
	for n := 1; n <= 6; n++ {
		m := made(t, n)
		for key := range api.Keys {
			puts(t, m, n-1, key, "a", key+1, api.OK)
		}
		for _, node := range wrongNodes(n) {
			if l, err := m.Cache(node); l != nil || plain.Told(err) != api.ErrRange {
				t.Errorf("Cache(%d) of %d: got %+v, %v, want ErrRange", node, n, l, err)
			}
		}
	}
}

// TestByEachNode has each node of each mesh be the first to put, and then to delete, each key.
func TestByEachNode(t *testing.T) {
	for n := 1; n <= 6; n++ {
		for node := range n {
			for key := range api.Keys {
				for _, text := range texts {
					m := made(t, n)
					want := make(shelf, n)
					puts(t, m, node, key, text, 1, api.OK)
					want[node] = list{has(key, 1, 1, text)}
					stands(t, m, 1, want...)
					deletes(t, m, node, key, 2, api.OK)
					want[node] = list{gone(key, 2, 2)}
					stands(t, m, 2, want...)
					tells(t, m, key, 0, gone(key, 0, 0), api.OK)
					tells(t, m, key, 1, has(key, 1, 1, text), api.OK)
					tells(t, m, key, 2, gone(key, 2, 2), api.OK)
				}
			}
		}
	}
}

// TestOneOfAnotherNode has nodes change what another one put: only their own caches know it.
func TestOneOfAnotherNode(t *testing.T) {
	m := made(t, 3)
	puts(t, m, 0, 3, "a", 1, api.OK)
	puts(t, m, 1, 3, "b", 2, api.OK)
	stands(t, m, 2, list{has(3, 1, 1, "a")}, list{has(3, 2, 2, "b")}, nil)
	puts(t, m, 0, 3, "c", 3, api.OK)
	stands(t, m, 3, list{has(3, 3, 3, "c")}, list{has(3, 2, 2, "b")}, nil)
	puts(t, m, 0, 3, "c", 4, api.OK)
	stands(t, m, 4, list{has(3, 4, 4, "c")}, list{has(3, 2, 2, "b")}, nil)
	deletes(t, m, 2, 3, 5, api.OK)
	stands(t, m, 5, list{has(3, 4, 4, "c")}, list{has(3, 2, 2, "b")}, list{gone(3, 5, 5)})
	deletes(t, m, 0, 3, 0, api.ErrNone)
	deletes(t, m, 1, 3, 0, api.ErrNone)
	stands(t, m, 5, list{has(3, 4, 4, "c")}, list{has(3, 2, 2, "b")}, list{gone(3, 5, 5)})
	puts(t, m, 1, 3, "d", 6, api.OK)
	deletes(t, m, 0, 3, 7, api.OK)
	stands(t, m, 7, list{gone(3, 7, 7)}, list{has(3, 6, 6, "d")}, list{gone(3, 5, 5)})
	puts(t, m, 2, 3, "", 8, api.OK)
	stands(t, m, 8, list{gone(3, 7, 7)}, list{has(3, 6, 6, "d")}, list{has(3, 8, 8, "")})
}

// TestOverWhatWasHeard has a node change a key that it had of a Get, or of a Swap, not of its own doing.
func TestOverWhatWasHeard(t *testing.T) {
	m := made(t, 2)
	puts(t, m, 0, 3, "a", 1, api.OK)
	ofStore(t, m, 1, 5, 0, gone(5, 0, 1))
	ofStore(t, m, 1, 3, 1, has(3, 1, 1, "a"))
	puts(t, m, 1, 5, "b", 2, api.OK)
	deletes(t, m, 1, 3, 3, api.OK)
	stands(t, m, 3, list{has(3, 1, 1, "a")}, list{gone(3, 3, 3), has(5, 2, 2, "b")})
	swaps(t, m, 0, 1, api.OK)
	deletes(t, m, 0, 5, 4, api.OK)
	puts(t, m, 0, 3, "c", 5, api.OK)
	stands(t, m, 5, list{has(3, 5, 5, "c"), gone(5, 4, 4)}, list{gone(3, 3, 3), has(5, 2, 2, "b")})
}

// TestOtherKeysStay has each key be put and deleted in a cache of all keys: the others are as they were, and known no longer.
func TestOtherKeysStay(t *testing.T) {
	for key := range api.Keys {
		m := made(t, 2)
		var want list
		for k := range api.Keys {
			puts(t, m, 1, k, "a", k+1, api.OK)
			want = append(want, has(k, k+1, k+1, "a"))
		}
		puts(t, m, 1, key, "b", 9, api.OK)
		want[key] = has(key, 9, 9, "b")
		stands(t, m, 9, nil, want)
		deletes(t, m, 1, key, 10, api.OK)
		want[key] = gone(key, 10, 10)
		stands(t, m, 10, nil, want)
	}
}

// TestKeysRise puts keys in an order of their own: the cache has them by keys.
func TestKeysRise(t *testing.T) {
	m := made(t, 1)
	var want list
	for i, key := range []int{5, 0, 7, 3, 4, 1, 6, 2} {
		puts(t, m, 0, key, "a", i+1, api.OK)
		want = append(want, has(key, i+1, i+1, "a"))
		slices.SortFunc(want, func(a, b api.Entry) int { return a.Key - b.Key })
		stands(t, m, i+1, want)
	}
}

// busy is a mesh of n nodes: of some keys a node knows what is, of some what was, of key 6 and 7 none knows anything.
func busy(t *testing.T, n int) *mesh.Mesh {
	t.Helper()
	m := made(t, n)
	for i := range 12 {
		puts(t, m, i%n, i%6, "t", i+1, api.OK)
	}
	deletes(t, m, n-1, 4, 13, api.OK)
	return m
}

// TestPutIsRefused has each fault alone, and all together: the node's first.
func TestPutIsRefused(t *testing.T) {
	for n := 1; n <= 6; n++ {
		m := busy(t, n)
		unchanged(t, m, n, func() {
			for _, node := range wrongNodes(n) {
				for _, key := range append([]int{0, 4, 7}, wrongKeys...) {
					for _, text := range append(longTexts, "a", "") {
						puts(t, m, node, key, text, 0, api.ErrRange)
					}
				}
			}
			for node := range n {
				for _, key := range wrongKeys {
					for _, text := range append(longTexts, "a", "") {
						puts(t, m, node, key, text, 0, api.ErrRange)
					}
				}
				for key := range api.Keys {
					for _, text := range longTexts {
						puts(t, m, node, key, text, 0, api.ErrFull)
					}
				}
			}
		})
	}
}

// TestDeleteIsRefused is that of Put: a key that is Gone may be so from 0 on, or have been deleted.
func TestDeleteIsRefused(t *testing.T) {
	for n := 1; n <= 6; n++ {
		m := busy(t, n)
		unchanged(t, m, n, func() {
			for _, node := range wrongNodes(n) {
				for _, key := range append([]int{0, 4, 7}, wrongKeys...) {
					deletes(t, m, node, key, 0, api.ErrRange)
				}
			}
			for node := range n {
				for _, key := range wrongKeys {
					deletes(t, m, node, key, 0, api.ErrRange)
				}
				for _, key := range []int{4, 6, 7} {
					deletes(t, m, node, key, 0, api.ErrNone)
				}
			}
		})
	}
}

// full is a mesh of 3 nodes of which nothing more may be done: key 5 was deleted, key 6 never put, key 7 put at the end.
func full(t *testing.T) *mesh.Mesh {
	t.Helper()
	m := made(t, 3)
	puts(t, m, 0, 5, "a", 1, api.OK)
	deletes(t, m, 0, 5, 2, api.OK)
	for seq := 3; seq < 1000; seq++ {
		puts(t, m, seq%2, seq%5, "b", seq, api.OK)
	}
	puts(t, m, 1, 7, "c", 1000, api.OK)
	return m
}

func TestFullStore(t *testing.T) {
	m := full(t)
	unchanged(t, m, 3, func() {
		for node := range 3 {
			for key := range api.Keys {
				puts(t, m, node, key, "a", 0, api.ErrFull)
				puts(t, m, node, key, longTexts[0], 0, api.ErrFull)
			}
			for _, key := range []int{0, 1, 2, 3, 4, 7} {
				deletes(t, m, node, key, 0, api.ErrFull)
			}
			deletes(t, m, node, 5, 0, api.ErrNone)
			deletes(t, m, node, 6, 0, api.ErrNone)
			for _, key := range wrongKeys {
				puts(t, m, node, key, longTexts[0], 0, api.ErrRange)
				deletes(t, m, node, key, 0, api.ErrRange)
			}
		}
		for _, node := range wrongNodes(3) {
			for _, key := range []int{0, 5, 6, 7, 8} {
				puts(t, m, node, key, "a", 0, api.ErrRange)
				puts(t, m, node, key, longTexts[0], 0, api.ErrRange)
				deletes(t, m, node, key, 0, api.ErrRange)
			}
		}
	})
}

// TestFullStoreIsRead has a mesh of which nothing more may be done go on otherwise.
func TestFullStoreIsRead(t *testing.T) {
	m := full(t)
	gets(t, m, 2, 7, 1001, api.Entry{}, false, api.ErrRange)
	ofCache(t, m, 0, 5, 2, gone(5, 2, 2))
	ofStore(t, m, 0, 5, 1000, gone(5, 2, 1000))
	ofCache(t, m, 0, 5, 1000, gone(5, 2, 1000))
	ofStore(t, m, 2, 6, 1000, gone(6, 0, 1000))
	ofCache(t, m, 1, 7, 1000, has(7, 1000, 1000, "c"))
	cached(t, m, 2, gone(6, 0, 1000))
	swaps(t, m, 1, 2, api.OK)
	ofCache(t, m, 2, 7, 1000, has(7, 1000, 1000, "c"))
	tells(t, m, 7, 999, gone(7, 0, 999), api.OK)
	tells(t, m, 7, 1000, has(7, 1000, 1000, "c"), api.OK)
	tells(t, m, 7, 1001, api.Entry{}, api.ErrRange)
}

// TestGetOfANewMesh has each node ask for each key that was never put.
func TestGetOfANewMesh(t *testing.T) {
	for n := 1; n <= 6; n++ {
		for node := range n {
			m := made(t, n)
			want := make(shelf, n)
			for key := range api.Keys {
				ofStore(t, m, node, key, 0, gone(key, 0, 0))
				want[node] = append(want[node], gone(key, 0, 0))
				stands(t, m, 0, want...)
				ofCache(t, m, node, key, 0, gone(key, 0, 0))
				stands(t, m, 0, want...)
			}
		}
	}
}

// TestGetByFloor has a cache with an entry of AsOf 3, where 5 were done: for each floor, where the key was changed behind 3 and where it was not.
func TestGetByFloor(t *testing.T) {
	for floor := range 6 {
		for _, c := range []struct {
			change func(*mesh.Mesh) (int, error)
			now    api.Entry
		}{
			{func(m *mesh.Mesh) (int, error) { return m.Put(1, 2, "z") }, has(4, 3, 5, "a")},
			{func(m *mesh.Mesh) (int, error) { return m.Put(1, 4, "b") }, has(4, 5, 5, "b")},
			{func(m *mesh.Mesh) (int, error) { return m.Put(1, 4, "a") }, has(4, 5, 5, "a")},
			{func(m *mesh.Mesh) (int, error) { return m.Delete(1, 4) }, gone(4, 5, 5)},
		} {
			m := made(t, 3)
			for seq, key := range []int{2, 6, 4, 1} {
				puts(t, m, 0, key, "a", seq+1, api.OK)
			}
			if n, err := c.change(m); n != 5 || err != nil {
				t.Fatalf("got %d, %v", n, err)
			}
			others := all(t, m, 3)
			own := list{has(1, 4, 4, "a"), has(2, 1, 1, "a"), has(4, 3, 3, "a"), has(6, 2, 2, "a")}
			if floor <= 3 {
				ofCache(t, m, 0, 4, floor, own[2])
				stands(t, m, 5, own, others[1], nil)
				ofCache(t, m, 0, 4, floor, own[2])
			} else {
				ofStore(t, m, 0, 4, floor, c.now)
				own[2] = c.now
				stands(t, m, 5, own, others[1], nil)
				ofCache(t, m, 0, 4, floor, c.now)
				ofCache(t, m, 0, 4, 5, c.now)
			}
			stands(t, m, 5, own, others[1], nil)
		}
	}
}

// TestGetWithoutAnEntry has a node ask for a key of which only others know, at each floor: that of a store tells all that was done.
func TestGetWithoutAnEntry(t *testing.T) {
	known := list{gone(0, 0, 4), has(1, 1, 4, "a"), gone(2, 3, 4), has(3, 4, 4, "")}
	for floor := range 5 {
		for key, now := range known {
			m := made(t, 2)
			puts(t, m, 1, 1, "a", 1, api.OK)
			puts(t, m, 1, 2, "b", 2, api.OK)
			deletes(t, m, 1, 2, 3, api.OK)
			puts(t, m, 1, 3, "", 4, api.OK)
			hers := list{has(1, 1, 1, "a"), gone(2, 3, 3), has(3, 4, 4, "")}
			ofStore(t, m, 0, key, floor, now)
			stands(t, m, 4, list{now}, hers)
			ofCache(t, m, 0, key, 4, now)
			ofCache(t, m, 0, key, 0, now)
			stands(t, m, 4, list{now}, hers)
		}
	}
}

// TestGetOfWhatIsGoneIsOfTheCache has a node's own Delete, and one that it heard of, be as good as a text.
func TestGetOfWhatIsGoneIsOfTheCache(t *testing.T) {
	m := made(t, 2)
	puts(t, m, 0, 3, "a", 1, api.OK)
	deletes(t, m, 0, 3, 2, api.OK)
	ofCache(t, m, 0, 3, 0, gone(3, 2, 2))
	ofCache(t, m, 0, 3, 2, gone(3, 2, 2))
	swaps(t, m, 1, 0, api.OK)
	ofCache(t, m, 1, 3, 2, gone(3, 2, 2))
	puts(t, m, 0, 3, "b", 3, api.OK)
	ofCache(t, m, 1, 3, 2, gone(3, 2, 2))
	ofStore(t, m, 1, 3, 3, has(3, 3, 3, "b"))
}

func TestGetIsRefused(t *testing.T) {
	for n := 1; n <= 6; n++ {
		for _, m := range []*mesh.Mesh{made(t, n), busy(t, n)} {
			unchanged(t, m, n, func() {
				for _, key := range []int{0, 3, 7, -1, 8} {
					for _, floor := range []int{0, m.Seq(), -1, m.Seq() + 1} {
						for _, node := range wrongNodes(n) {
							gets(t, m, node, key, floor, api.Entry{}, false, api.ErrRange)
						}
					}
				}
				for node := range n {
					for _, key := range wrongKeys {
						for _, floor := range append([]int{0, m.Seq()}, wrongFloors(m.Seq())...) {
							gets(t, m, node, key, floor, api.Entry{}, false, api.ErrRange)
						}
					}
					for key := range api.Keys {
						for _, floor := range wrongFloors(m.Seq()) {
							gets(t, m, node, key, floor, api.Entry{}, false, api.ErrRange)
						}
					}
				}
			})
		}
	}
}

// TestFloorUpToSeq has the greatest floor go up with what is done.
func TestFloorUpToSeq(t *testing.T) {
	m := made(t, 2)
	for seq := range 30 {
		gets(t, m, 0, 3, seq+1, api.Entry{}, false, api.ErrRange)
		gets(t, m, 1, 3, seq+1, api.Entry{}, false, api.ErrRange)
		ofStore(t, m, 0, 3, seq, gone(3, 0, seq))
		ofCache(t, m, 0, 3, seq, gone(3, 0, seq))
		puts(t, m, 1, 5, "a", seq+1, api.OK)
	}
}

// three is a mesh of 3 nodes, such that of nodes 0 and 1:
// key 0 has neither, key 1 only node 0, key 2 only node 1, key 3 both, node 0 a newer one, key 4 both, node 1 a newer one,
// key 5 both the same version, node 0 known up to further on, key 6 likewise, node 1, key 7 both the same.
func three(t *testing.T) *mesh.Mesh {
	t.Helper()
	m := made(t, 3)
	puts(t, m, 2, 0, "n", 1, api.OK)
	puts(t, m, 0, 4, "a", 2, api.OK)
	puts(t, m, 1, 3, "b", 3, api.OK)
	puts(t, m, 0, 1, "c", 4, api.OK)
	puts(t, m, 1, 5, "d", 5, api.OK)
	puts(t, m, 0, 6, "e", 6, api.OK)
	deletes(t, m, 0, 3, 7, api.OK)
	puts(t, m, 1, 4, "f", 8, api.OK)
	ofStore(t, m, 0, 7, 8, gone(7, 0, 8))
	ofStore(t, m, 1, 7, 8, gone(7, 0, 8))
	ofStore(t, m, 1, 6, 8, has(6, 6, 8, "e"))
	ofStore(t, m, 0, 5, 8, has(5, 5, 8, "d"))
	puts(t, m, 1, 2, "g", 9, api.OK)
	puts(t, m, 2, 3, "h", 10, api.OK)
	stands(t, m, 10,
		list{has(1, 4, 4, "c"), gone(3, 7, 7), has(4, 2, 2, "a"), has(5, 5, 8, "d"), has(6, 6, 6, "e"), gone(7, 0, 8)},
		list{has(2, 9, 9, "g"), has(3, 3, 3, "b"), has(4, 8, 8, "f"), has(5, 5, 5, "d"), has(6, 6, 8, "e"), gone(7, 0, 8)},
		list{has(0, 1, 1, "n"), has(3, 10, 10, "h")})
	return m
}

// TestSwap has each of two take what it lacks, either way round. What they say alike stays known as far as each knew it.
func TestSwap(t *testing.T) {
	one := list{has(1, 4, 4, "c"), has(2, 9, 9, "g"), gone(3, 7, 7), has(4, 8, 8, "f"), has(5, 5, 8, "d"), has(6, 6, 6, "e"), gone(7, 0, 8)}
	other := list{has(1, 4, 4, "c"), has(2, 9, 9, "g"), gone(3, 7, 7), has(4, 8, 8, "f"), has(5, 5, 5, "d"), has(6, 6, 8, "e"), gone(7, 0, 8)}
	third := list{has(0, 1, 1, "n"), has(3, 10, 10, "h")}
	for _, two := range [][2]int{{0, 1}, {1, 0}} {
		m := three(t)
		for range 2 {
			swaps(t, m, two[0], two[1], api.OK)
			stands(t, m, 10, one, other, third)
		}
		swaps(t, m, two[1], two[0], api.OK)
		stands(t, m, 10, one, other, third)
	}
}

// TestSwapIsPair holds each two of a mesh's nodes against chapter 13's Pair.
func TestSwapIsPair(t *testing.T) {
	for n := 2; n <= 6; n++ {
		for a := range n {
			for b := range n {
				if a == b {
					continue
				}
				m := busy(t, n)
				ofStore(t, m, a, 6, 13, gone(6, 0, 13))
				want := all(t, m, n)
				var err error
				if want[a], want[b], err = swap.Pair(want[a], want[b]); err != nil {
					t.Fatal(err)
				}
				swaps(t, m, a, b, api.OK)
				stands(t, m, 13, want...)
				keys, err := swap.Lacks(all(t, m, n)[a], all(t, m, n)[b])
				if len(keys) != 0 || err != nil {
					t.Errorf("behind Swap(%d, %d) of %d they part: %v, %v", a, b, n, keys, err)
				}
			}
		}
	}
}

func TestSwapOfNone(t *testing.T) {
	m := made(t, 3)
	swaps(t, m, 0, 2, api.OK)
	stands(t, m, 0, nil, nil, nil)
	puts(t, m, 2, 7, "a", 1, api.OK)
	swaps(t, m, 0, 1, api.OK)
	stands(t, m, 1, nil, nil, list{has(7, 1, 1, "a")})
	swaps(t, m, 0, 2, api.OK)
	stands(t, m, 1, list{has(7, 1, 1, "a")}, nil, list{has(7, 1, 1, "a")})
}

// TestSwapIsNoGet has a Swap tell nothing that neither knew, and not make known any longer what both know.
func TestSwapIsNoGet(t *testing.T) {
	m := made(t, 3)
	puts(t, m, 0, 3, "a", 1, api.OK)
	swaps(t, m, 0, 1, api.OK)
	puts(t, m, 2, 3, "b", 2, api.OK)
	swaps(t, m, 0, 1, api.OK)
	stands(t, m, 2, list{has(3, 1, 1, "a")}, list{has(3, 1, 1, "a")}, list{has(3, 2, 2, "b")})
	ofCache(t, m, 0, 3, 1, has(3, 1, 1, "a"))
	swaps(t, m, 2, 1, api.OK)
	ofCache(t, m, 1, 3, 2, has(3, 2, 2, "b"))
	ofStore(t, m, 0, 3, 2, has(3, 2, 2, "b"))
}

// TestSwapOfTwoWithOneNumber has two versions of a key whose numbers (chapter 7) are the same by chance: trees do not part there, and so nothing is given.
func TestSwapOfTwoWithOneNumber(t *testing.T) {
	m := made(t, 2)
	puts(t, m, 0, 3, "jfnomg", 1, api.OK)
	puts(t, m, 1, 3, "dlqqqe", 2, api.OK)
	swaps(t, m, 0, 1, api.OK)
	stands(t, m, 2, list{has(3, 1, 1, "jfnomg")}, list{has(3, 2, 2, "dlqqqe")})
	puts(t, m, 1, 3, "dlqqqe", 3, api.OK)
	swaps(t, m, 0, 1, api.OK)
	stands(t, m, 3, list{has(3, 3, 3, "dlqqqe")}, list{has(3, 3, 3, "dlqqqe")})
}

// TestBehindASwapEachIsItsOwn has two nodes change what they have alike: the other one does not feel it.
func TestBehindASwapEachIsItsOwn(t *testing.T) {
	for _, node := range []int{0, 1} {
		m := made(t, 2)
		var alike list
		for key := range 5 {
			puts(t, m, key%2, key, "a", key+1, api.OK)
			alike = append(alike, has(key, key+1, key+1, "a"))
		}
		swaps(t, m, 0, 1, api.OK)
		stands(t, m, 5, alike, alike)
		puts(t, m, node, 2, "b", 6, api.OK)
		deletes(t, m, node, 0, 7, api.OK)
		ofStore(t, m, node, 6, 7, gone(6, 0, 7))
		ofStore(t, m, node, 3, 7, has(3, 4, 7, "a"))
		want := shelf{alike, alike}
		want[node] = list{gone(0, 7, 7), has(1, 2, 2, "a"), has(2, 6, 6, "b"), has(3, 4, 7, "a"), has(4, 5, 5, "a"), gone(6, 0, 7)}
		stands(t, m, 7, want...)
	}
}

// TestSwapIsRefused has no such node be told ahead of two that are the same.
func TestSwapIsRefused(t *testing.T) {
	for n := 1; n <= 6; n++ {
		m := busy(t, n)
		unchanged(t, m, n, func() {
			for _, node := range wrongNodes(n) {
				for _, other := range append(wrongNodes(n), 0, n-1) {
					swaps(t, m, node, other, api.ErrRange)
					swaps(t, m, other, node, api.ErrRange)
				}
			}
			for node := range n {
				swaps(t, m, node, node, api.ErrShape)
			}
		})
	}
}

// TestSeqAndAtAreTheStores plays the same on a store: whichever node does it, it comes to the same.
func TestSeqAndAtAreTheStores(t *testing.T) {
	r := rand.New(rand.NewPCG(18, 1))
	m, s := made(t, 6), store.New()
	for range 150 {
		node, key, text := r.IntN(6), r.IntN(10)-1, strings.Repeat("a", r.IntN(14))
		if r.IntN(3) == 0 {
			n, err := s.Delete(key)
			deletes(t, m, node, key, n, plain.Told(err))
		} else {
			n, err := s.Put(key, text)
			puts(t, m, node, key, text, n, plain.Told(err))
		}
		if m.Seq() != s.Seq() {
			t.Fatalf("Seq: got %d, want %d", m.Seq(), s.Seq())
		}
		for _, key := range append([]int{0, 1, 2, 3, 4, 5, 6, 7}, wrongKeys...) {
			for _, seq := range append(wrongFloors(s.Seq()), 0, s.Seq()/2, s.Seq()-1, s.Seq()) {
				e, err := s.At(key, seq)
				tells(t, m, key, seq, e, plain.Told(err))
			}
		}
	}
}

func TestTwoShareNothing(t *testing.T) {
	a, b := made(t, 2), made(t, 2)
	puts(t, a, 0, 3, "a", 1, api.OK)
	stands(t, b, 0, nil, nil)
	puts(t, b, 0, 3, "b", 1, api.OK)
	deletes(t, b, 1, 3, 2, api.OK)
	stands(t, a, 1, list{has(3, 1, 1, "a")}, nil)
	stands(t, b, 2, list{has(3, 1, 1, "b")}, list{gone(3, 2, 2)})
	gets(t, a, 0, 3, 2, api.Entry{}, false, api.ErrRange)
	tells(t, a, 3, 2, api.Entry{}, api.ErrRange)
	tells(t, b, 3, 1, has(3, 1, 1, "b"), api.OK)
}

// spoil writes into all of a list's memory.
func spoil(l list) {
	l = l[:cap(l)]
	for i := range l {
		l[i] = has(-5, -5, -5, "spoilt")
	}
}

// TestWhatWasToldIsTheCallers spoils each answer, as far as its memory goes: neither the caches nor another answer may feel it.
func TestWhatWasToldIsTheCallers(t *testing.T) {
	for many := range 9 {
		m := made(t, 2)
		var want list
		for key := range many {
			puts(t, m, key%2, key, "a", key+1, api.OK)
			want = append(want, has(key, key+1, key+1, "a"))
		}
		swaps(t, m, 0, 1, api.OK)
		told := append(all(t, m, 2), all(t, m, 2)...)
		for i, l := range told {
			spoil(l)
			stands(t, m, many, want, want)
			for _, other := range told[i+1:] {
				if !slices.Equal(other, want) {
					t.Fatalf("two answers share memory: %+v", other)
				}
			}
		}
		for key := range api.Keys {
			told = all(t, m, 2)
			seq := many + key + 1
			puts(t, m, 0, key, "b", seq, api.OK)
			ofStore(t, m, 1, key, seq, has(key, seq, seq, "b"))
			spoil(told[0])
			spoil(told[1])
			want = written(want, has(key, seq, seq, "b"))
			stands(t, m, seq, want, want)
		}
	}
}

// written is a cache that has an entry in place of what was there of its key, all else as it was.
func written(own list, e api.Entry) list {
	l := slices.DeleteFunc(slices.Clone(own), func(x api.Entry) bool { return x.Key == e.Key })
	l = append(l, e)
	slices.SortFunc(l, func(a, b api.Entry) int { return a.Key - b.Key })
	return l
}

// TestWhatWasToldStays keeps all answers of plays, with memory behind their length, and holds them against what they were.
func TestWhatWasToldStays(t *testing.T) {
	r := rand.New(rand.NewPCG(18, 2))
	for range 30 {
		m, o := made(t, 3), newModel(3)
		var told, were shelf
		for range 60 {
			play(t, r, m, o)
			for _, l := range all(t, m, 3) {
				l = l[:cap(l)]
				told, were = append(told, l), append(were, slices.Clone(l))
			}
		}
		for i, l := range told {
			if !slices.Equal(l, were[i]) {
				t.Fatalf("what was told as %+v became %+v", were[i], l)
			}
		}
	}
}

// TestTextsAreTheCallers has the bytes of which a text was made be written into behind the call.
func TestTextsAreTheCallers(t *testing.T) {
	m := made(t, 2)
	b := []byte("tea")
	text := string(b)
	puts(t, m, 0, 3, text, 1, api.OK)
	copy(b, "xyz")
	swaps(t, m, 0, 1, api.OK)
	stands(t, m, 1, list{has(3, 1, 1, "tea")}, list{has(3, 1, 1, "tea")})
	if text != "tea" {
		t.Errorf("the text became %q", text)
	}
}

// step is what was done: a key has a text, or is Gone.
type step struct {
	key  int
	gone bool
	text string
}

// reach is how a node knows a key: which step made it so, from 1 on (0: none), and up to where that is known.
type reach struct {
	known      bool
	made, upTo int
}

// model has a mesh by other means: all steps in a row, and of each node and key only numbers of steps.
type model struct {
	steps []step
	nodes [][8]reach
}

func newModel(n int) *model { return &model{nodes: make([][8]reach, n)} }

func (o *model) isNode(node int) bool { return 0 <= node && node <= len(o.nodes)-1 }

// newest is the last step of a key among the first so many, from 1 on.
func (o *model) newest(key, many int) int {
	last := 0
	for i, x := range o.steps[:many] {
		if x.key == key {
			last = i + 1
		}
	}
	return last
}

func (o *model) entry(key, made, upTo int) api.Entry {
	if made == 0 || o.steps[made-1].gone {
		return gone(key, made, upTo)
	}
	return has(key, made, upTo, o.steps[made-1].text)
}

// do takes a step by a node that may.
func (o *model) do(node int, x step) (int, api.Errno) {
	if len(o.steps) == 1000 {
		return 0, api.ErrFull
	}
	o.steps = append(o.steps, x)
	seq := len(o.steps)
	o.nodes[node][x.key] = reach{true, seq, seq}
	return seq, api.OK
}

func (o *model) put(node, key int, text string) (int, api.Errno) {
	if !o.isNode(node) || key < 0 || key > 7 {
		return 0, api.ErrRange
	}
	if len(text) > 12 {
		return 0, api.ErrFull
	}
	return o.do(node, step{key: key, text: text})
}

func (o *model) delete(node, key int) (int, api.Errno) {
	if !o.isNode(node) || key < 0 || key > 7 {
		return 0, api.ErrRange
	}
	if o.entry(key, o.newest(key, len(o.steps)), 0).Gone {
		return 0, api.ErrNone
	}
	return o.do(node, step{key: key, gone: true})
}

func (o *model) get(node, key, floor int) (api.Entry, bool, api.Errno) {
	seq := len(o.steps)
	if !o.isNode(node) || key < 0 || key > 7 || floor < 0 || floor > seq {
		return api.Entry{}, false, api.ErrRange
	}
	k := &o.nodes[node][key]
	is := k.known && k.upTo >= floor
	if !is {
		*k = reach{true, o.newest(key, seq), seq}
	}
	return o.entry(key, k.made, k.upTo), is, api.OK
}

// swap goes key by key: who knows of no step, or of an earlier one, knows then what the other one does.
func (o *model) swap(a, b int) api.Errno {
	if !o.isNode(a) || !o.isNode(b) {
		return api.ErrRange
	}
	if a == b {
		return api.ErrShape
	}
	for key := range 8 {
		one, other := &o.nodes[a][key], &o.nodes[b][key]
		switch {
		case !one.known || other.known && one.made < other.made:
			*one = *other
		case !other.known || other.made < one.made:
			*other = *one
		}
	}
	return api.OK
}

func (o *model) caches() shelf {
	var caches shelf
	for _, row := range o.nodes {
		var l list
		for key, k := range row {
			if k.known {
				l = append(l, o.entry(key, k.made, k.upTo))
			}
		}
		caches = append(caches, l)
	}
	return caches
}

// agrees checks all that could be told of a mesh, but for the store's far past, and that what its caches have was so all the while.
func agrees(t *testing.T, m *mesh.Mesh, o *model) {
	t.Helper()
	seq := len(o.steps)
	stands(t, m, seq, o.caches()...)
	for key := range 8 {
		tells(t, m, key, seq, o.entry(key, o.newest(key, seq), seq), api.OK)
	}
	tells(t, m, 3, seq+1, api.Entry{}, api.ErrRange)
	for _, l := range all(t, m, len(o.nodes)) {
		for _, e := range l {
			wasSo(t, m, e)
		}
	}
}

// wasSo checks that the store tells the same as an entry, from where on it is known up to where it is, at both ends and between.
func wasSo(t *testing.T, m *mesh.Mesh, e api.Entry) {
	t.Helper()
	for _, seq := range []int{e.Version, (e.Version + e.AsOf) / 2, e.AsOf} {
		was := e
		was.AsOf = seq
		tells(t, m, e.Key, seq, was, api.OK)
		if is, err := entry.True(e, seq); !is || err != nil {
			t.Errorf("True(%+v, %d): got %v, %v", e, seq, is, err)
		}
	}
}

// some is mostly one of so many, now and then one less than none, or one more than all.
func some(r *rand.Rand, many int) int {
	if r.IntN(15) == 0 {
		return r.IntN(2)*(many+1) - 1
	}
	return r.IntN(many)
}

// play has a call by chance go as the model has it.
func play(t *testing.T, r *rand.Rand, m *mesh.Mesh, o *model) {
	t.Helper()
	node, key := some(r, len(o.nodes)), some(r, 8)
	switch r.IntN(6) {
	case 0, 1:
		text := strings.Repeat("ab"[r.IntN(2):][:1], some(r, 13)+1)
		n, e := o.put(node, key, text)
		puts(t, m, node, key, text, n, e)
	case 2:
		n, e := o.delete(node, key)
		deletes(t, m, node, key, n, e)
	case 3, 4:
		floor := some(r, len(o.steps)+1)
		x, is, e := o.get(node, key, floor)
		gets(t, m, node, key, floor, x, is, e)
	default:
		other := some(r, len(o.nodes))
		swaps(t, m, node, other, o.swap(node, other))
	}
}

func TestPlaysByChance(t *testing.T) {
	r := rand.New(rand.NewPCG(18, 3))
	for n := 1; n <= 6; n++ {
		for range 40 {
			m, o := made(t, n), newModel(n)
			for range 100 {
				play(t, r, m, o)
				agrees(t, m, o)
				if t.Failed() {
					return
				}
			}
		}
	}
}

// TestLongPlaysByChance goes on until the store is full, and beyond.
func TestLongPlaysByChance(t *testing.T) {
	r := rand.New(rand.NewPCG(18, 4))
	for _, n := range []int{1, 2, 3, 6} {
		m, o := made(t, n), newModel(n)
		for range 3500 {
			play(t, r, m, o)
			agrees(t, m, o)
			if t.Failed() {
				return
			}
		}
		if m.Seq() != 1000 {
			t.Errorf("of %d nodes the store is not full: %d", n, m.Seq())
		}
	}
}

// shortSteps are calls on few keys and nodes, each held against the model.
func shortSteps(t *testing.T) []func(*mesh.Mesh, *model) {
	var steps []func(*mesh.Mesh, *model)
	for node := range 2 {
		steps = append(steps, func(m *mesh.Mesh, o *model) {
			n, e := o.put(node, 3, "a")
			puts(t, m, node, 3, "a", n, e)
		}, func(m *mesh.Mesh, o *model) {
			n, e := o.delete(node, 3)
			deletes(t, m, node, 3, n, e)
		}, func(m *mesh.Mesh, o *model) {
			x, is, e := o.get(node, 3, len(o.steps))
			gets(t, m, node, 3, len(o.steps), x, is, e)
		}, func(m *mesh.Mesh, o *model) {
			x, is, e := o.get(node, 3, 1)
			gets(t, m, node, 3, 1, x, is, e)
		})
	}
	return append(steps, func(m *mesh.Mesh, o *model) {
		swaps(t, m, 0, 1, o.swap(0, 1))
	}, func(m *mesh.Mesh, o *model) {
		n, e := o.put(1, 4, "b")
		puts(t, m, 1, 4, "b", n, e)
	})
}

// TestEachShortPlay has each row of five such calls go as the model has it.
func TestEachShortPlay(t *testing.T) {
	steps := shortSteps(t)
	rows := 1
	for range 5 {
		rows *= len(steps)
	}
	for row := range rows {
		m, o := made(t, 2), newModel(2)
		for range 5 {
			steps[row%len(steps)](m, o)
			row /= len(steps)
		}
		agrees(t, m, o)
		if t.Failed() {
			return
		}
	}
}

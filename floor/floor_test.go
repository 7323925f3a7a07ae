package floor_test

import (
	"math"
	"strings"
	"testing"

	"beaconmere/api"
	"beaconmere/floor"
	"beaconmere/plain"
	"beaconmere/store"
)

var wrongKeys = []int{-1, api.Keys, 256, math.MinInt, math.MaxInt}

var wrongSeqs = []int{-1, api.MaxSeq + 1, math.MinInt, math.MaxInt}

// floors is what each key's floor is to be.
type floors = [api.Keys]int

// has makes an entry with a text.
func has(key, version, asOf int, text string) api.Entry {
	return api.Entry{Key: key, Version: version, AsOf: asOf, Text: text}
}

// gone makes an entry of a key that is Gone.
func gone(key, version, asOf int) api.Entry {
	return api.Entry{Key: key, Version: version, AsOf: asOf, Gone: true}
}

// uneven makes floors with the least one, the greatest one, and some between.
func uneven(t *testing.T) (*floor.Floors, floors) {
	t.Helper()
	want := floors{0, 3, 1, 999, 1000, 500, 3, 7}
	f := floor.New()
	for key, n := range want {
		raises(t, f, key, n, n > 0, api.OK)
	}
	same(t, f, want)
	return f, want
}

func raises(t *testing.T, f *floor.Floors, key, seq int, wantIs bool, want api.Errno) {
	t.Helper()
	if is, err := f.Raise(key, seq); is != wantIs || plain.Told(err) != want {
		t.Errorf("Raise(%d, %d): got %v, %v, want %v, %v", key, seq, is, err, wantIs, want)
	}
}

func all(t *testing.T, f *floor.Floors, seq int, want api.Errno) {
	t.Helper()
	if err := f.All(seq); plain.Told(err) != want {
		t.Errorf("All(%d): got %v, want %v", seq, err, want)
	}
}

func of(t *testing.T, f *floor.Floors, key, wantN int, want api.Errno) {
	t.Helper()
	if n, err := f.Of(key); n != wantN || plain.Told(err) != want {
		t.Errorf("Of(%d): got %d, %v, want %d, %v", key, n, err, wantN, want)
	}
}

func may(t *testing.T, f *floor.Floors, e api.Entry, wantIs bool, want api.Errno) {
	t.Helper()
	if is, err := f.May(e); is != wantIs || plain.Told(err) != want {
		t.Errorf("May(%+v): got %v, %v, want %v, %v", e, is, err, wantIs, want)
	}
}

// same holds every key's floor against what it is to be.
func same(t *testing.T, f *floor.Floors, want floors) {
	t.Helper()
	for key, n := range want {
		of(t, f, key, n, api.OK)
	}
}

func TestAFloorIs0AtFirst(t *testing.T) {
	same(t, floor.New(), floors{})
}

func TestRaiseToMore(t *testing.T) {
	for key := range api.Keys {
		f, want := floor.New(), floors{}
		for _, n := range []int{1, 2, 500, 999, 1000} {
			raises(t, f, key, n, true, api.OK)
			want[key] = n
			same(t, f, want)
		}
	}
}

func TestRaiseToTheSame(t *testing.T) {
	for key := range api.Keys {
		f, want := floor.New(), floors{}
		for _, n := range []int{0, 1, 500, 1000} {
			raises(t, f, key, n, n > 0, api.OK)
			raises(t, f, key, n, false, api.OK)
			want[key] = n
			same(t, f, want)
		}
	}
}

func TestRaiseToLess(t *testing.T) {
	for key, own := range []int{1, 2, 3, 500, 999, 1000, 7, 8} {
		f, want := floor.New(), floors{}
		raises(t, f, key, own, true, api.OK)
		want[key] = own
		for _, n := range []int{own - 1, own / 2, 0} {
			raises(t, f, key, n, false, api.OK)
			same(t, f, want)
		}
	}
}

func TestAllAreRaised(t *testing.T) {
	for _, n := range []int{0, 1, 2, 3, 4, 500, 501, 999, 1000} {
		f, want := uneven(t)
		for key, own := range want {
			want[key] = max(own, n)
		}
		for range 2 {
			all(t, f, n, api.OK)
			same(t, f, want)
		}
		all(t, f, 0, api.OK)
		same(t, f, want)
	}
}

func TestRaiseBehindAll(t *testing.T) {
	f, want := floor.New(), floors{5, 5, 5, 5, 5, 5, 5, 5}
	all(t, f, 5, api.OK)
	for key := range api.Keys {
		raises(t, f, key, 4, false, api.OK)
		raises(t, f, key, 5, false, api.OK)
		same(t, f, want)
		raises(t, f, key, 6, true, api.OK)
		want[key] = 6
		same(t, f, want)
	}
}

func TestRaiseIsRefused(t *testing.T) {
	f, want := uneven(t)
	seqs := append([]int{0, 2, 1000}, wrongSeqs...)
	for _, key := range wrongKeys {
		for _, n := range seqs {
			raises(t, f, key, n, false, api.ErrRange)
			same(t, f, want)
		}
	}
	for key := range api.Keys {
		for _, n := range wrongSeqs {
			raises(t, f, key, n, false, api.ErrRange)
			same(t, f, want)
		}
	}
}

func TestAllIsRefused(t *testing.T) {
	f, want := uneven(t)
	for _, n := range wrongSeqs {
		all(t, f, n, api.ErrRange)
		same(t, f, want)
	}
}

func TestOfNoSuchKey(t *testing.T) {
	f, want := uneven(t)
	for _, key := range wrongKeys {
		of(t, f, key, 0, api.ErrRange)
		same(t, f, want)
	}
}

func TestMayAtFirst(t *testing.T) {
	f := floor.New()
	may(t, f, api.Entry{}, true, api.OK)
	for key := range api.Keys {
		may(t, f, gone(key, 0, 0), true, api.OK)
		may(t, f, has(key, 1, 1, "a"), true, api.OK)
		may(t, f, has(key, 0, 1000, ""), true, api.OK)
	}
}

func TestMayByTheFloorOfItsKey(t *testing.T) {
	f, want := uneven(t)
	for key, own := range want {
		for _, n := range []int{0, own - 1, own, own + 1, api.MaxSeq} {
			if n < 0 || n > api.MaxSeq {
				continue
			}
			for _, version := range []int{0, n / 2, n} {
				may(t, f, has(key, version, n, "a"), n >= own, api.OK)
				may(t, f, gone(key, version, n), n >= own, api.OK)
			}
		}
	}
	same(t, f, want)
}

func TestMayByItsAsOfAlone(t *testing.T) {
	f := floor.New()
	raises(t, f, 3, 5, true, api.OK)
	may(t, f, has(3, 1, 5, "a"), true, api.OK)
	may(t, f, has(3, 4, 4, "a"), false, api.OK)
	may(t, f, has(2, 4, 4, "a"), true, api.OK)
	may(t, f, has(4, 4, 4, "a"), true, api.OK)
	raises(t, f, 3, 6, true, api.OK)
	may(t, f, has(3, 1, 5, "a"), false, api.OK)
	all(t, f, 5, api.OK)
	may(t, f, has(2, 4, 4, "a"), false, api.OK)
	may(t, f, has(2, 4, 5, "a"), true, api.OK)
}

func TestMayOfAWrongEntry(t *testing.T) {
	long := strings.Repeat("z", api.MaxText+1)
	high := floor.New()
	all(t, high, api.MaxSeq, api.OK)
	for _, f := range []*floor.Floors{floor.New(), high} {
		for _, key := range wrongKeys {
			may(t, f, has(key, 1, 2, "a"), false, api.ErrRange)
			may(t, f, has(key, 1, api.MaxSeq, long), false, api.ErrRange)
		}
		for _, n := range wrongSeqs {
			may(t, f, has(3, n, 5, "a"), false, api.ErrRange)
			may(t, f, has(3, 5, n, "a"), false, api.ErrRange)
			may(t, f, has(3, n, n, long), false, api.ErrRange)
		}
		may(t, f, has(3, 6, 5, "a"), false, api.ErrRange)
		may(t, f, has(3, 5, 1000, long), false, api.ErrFull)
		may(t, f, api.Entry{Key: 3, Version: 5, AsOf: 1000, Gone: true, Text: long}, false, api.ErrFull)
		may(t, f, api.Entry{Key: 3, Version: 5, AsOf: 1000, Gone: true, Text: "a"}, false, api.ErrShape)
		may(t, f, has(3, 5, 1000, long[1:]), true, api.OK)
	}
	same(t, high, floors{1000, 1000, 1000, 1000, 1000, 1000, 1000, 1000})
}

func TestFloorsAreTheirOwn(t *testing.T) {
	a, b := floor.New(), floor.New()
	raises(t, a, 2, 5, true, api.OK)
	all(t, a, 3, api.OK)
	same(t, a, floors{3, 3, 5, 3, 3, 3, 3, 3})
	same(t, b, floors{})
	may(t, b, has(2, 1, 1, "a"), true, api.OK)
}

// TestAFloorHoldsBackWhatIsOlder plays who has seen a number of a store, and then asks for all that the store ever told.
func TestAFloorHoldsBackWhatIsOlder(t *testing.T) {
	s := store.New()
	for _, text := range []string{"a", "b", "c"} {
		for _, key := range []int{2, 5} {
			if _, err := s.Put(key, text); err != nil {
				t.Fatal(err)
			}
		}
	}
	for seen := range s.Seq() + 1 {
		f := floor.New()
		raises(t, f, 2, seen, seen > 0, api.OK)
		for seq := range s.Seq() + 1 {
			for _, key := range []int{2, 5} {
				e, err := s.At(key, seq)
				if err != nil {
					t.Fatal(err)
				}
				may(t, f, e, key != 2 || seq >= seen, api.OK)
			}
		}
	}
}

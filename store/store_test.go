package store_test

import (
	"math"
	"strings"
	"testing"

	"beaconmere/api"
	"beaconmere/plain"
	"beaconmere/store"
)

var wrongKeys = []int{-1, api.Keys, 256, math.MinInt, math.MaxInt}

var text12 = strings.Repeat("z", api.MaxText)

var text13 = strings.Repeat("z", api.MaxText+1)

// done checks what a call that changes the store answered.
func done(t *testing.T, what string, n int, err error, wantN int, want api.Errno) {
	t.Helper()
	if n != wantN || plain.Told(err) != want {
		t.Errorf("%s: got %d, %v, want %d, %v", what, n, err, wantN, want)
	}
}

// told checks what a call that tells an entry answered.
func told(t *testing.T, what string, e api.Entry, err error, wantE api.Entry, want api.Errno) {
	t.Helper()
	if e != wantE || plain.Told(err) != want {
		t.Errorf("%s: got %+v, %v, want %+v, %v", what, e, err, wantE, want)
	}
}

func reads(t *testing.T, s *store.Store, want api.Entry) {
	t.Helper()
	e, err := s.Read(want.Key)
	told(t, "Read", e, err, want, api.OK)
}

func was(t *testing.T, s *store.Store, seq int, want api.Entry) {
	t.Helper()
	e, err := s.At(want.Key, seq)
	told(t, "At", e, err, want, api.OK)
}

func counts(t *testing.T, s *store.Store, want int) {
	t.Helper()
	if n := s.Seq(); n != want {
		t.Errorf("Seq: got %d, want %d", n, want)
	}
}

// all that a store tells, to hold one time against another.
func all(t *testing.T, s *store.Store) []api.Entry {
	t.Helper()
	var l []api.Entry
	for key := range api.Keys {
		for seq := range s.Seq() + 1 {
			e, err := s.At(key, seq)
			if err != nil {
				t.Fatalf("At(%d, %d): %v", key, seq, err)
			}
			l = append(l, e)
		}
	}
	return l
}

// full makes a store that has done all it may: its key 0 is put over and over, but key 1 is Gone.
func full(t *testing.T) *store.Store {
	t.Helper()
	s := store.New()
	for i := range api.MaxSeq {
		n, err := s.Put(0, "a")
		done(t, "Put", n, err, i+1, api.OK)
	}
	return s
}

func TestAtFirstEachKeyIsGone(t *testing.T) {
	s := store.New()
	counts(t, s, 0)
	for key := range api.Keys {
		want := api.Entry{Key: key, Gone: true}
		reads(t, s, want)
		was(t, s, 0, want)
	}
}

func TestEachThingDoneHasTheNextNumber(t *testing.T) {
	s := store.New()
	n, err := s.Put(2, "abc")
	done(t, "Put", n, err, 1, api.OK)
	n, err = s.Put(5, "b")
	done(t, "Put of another key", n, err, 2, api.OK)
	n, err = s.Swap(2, 1, "x")
	done(t, "Swap", n, err, 3, api.OK)
	n, err = s.Delete(5)
	done(t, "Delete", n, err, 4, api.OK)
	n, err = s.Put(2, "x")
	done(t, "Put of the same text", n, err, 5, api.OK)
	counts(t, s, 5)
	reads(t, s, api.Entry{Key: 2, Version: 5, AsOf: 5, Text: "x"})
	reads(t, s, api.Entry{Key: 5, Version: 4, AsOf: 5, Gone: true})
	reads(t, s, api.Entry{Key: 0, Version: 0, AsOf: 5, Gone: true})
}

func TestAtTellsWhatWasJustBehind(t *testing.T) {
	s := store.New()
	s.Put(3, "a")
	s.Put(4, "other")
	s.Put(3, "b")
	s.Delete(3)
	s.Put(3, "")
	was(t, s, 0, api.Entry{Key: 3, Version: 0, AsOf: 0, Gone: true})
	was(t, s, 1, api.Entry{Key: 3, Version: 1, AsOf: 1, Text: "a"})
	was(t, s, 2, api.Entry{Key: 3, Version: 1, AsOf: 2, Text: "a"})
	was(t, s, 3, api.Entry{Key: 3, Version: 3, AsOf: 3, Text: "b"})
	was(t, s, 4, api.Entry{Key: 3, Version: 4, AsOf: 4, Gone: true})
	was(t, s, 5, api.Entry{Key: 3, Version: 5, AsOf: 5, Text: ""})
	was(t, s, 1, api.Entry{Key: 4, Version: 0, AsOf: 1, Gone: true})
}

func TestAtKnowsNoOtherNumbers(t *testing.T) {
	s := store.New()
	e, err := s.At(0, 1)
	told(t, "At ahead of the first", e, err, api.Entry{}, api.ErrRange)
	s.Put(0, "a")
	s.Put(0, "b")
	for _, seq := range []int{-1, 3, api.MaxSeq, math.MinInt, math.MaxInt} {
		e, err := s.At(0, seq)
		told(t, "At", e, err, api.Entry{}, api.ErrRange)
	}
}

func TestFirstAndLastKey(t *testing.T) {
	for _, key := range []int{0, api.Keys - 1} {
		s := store.New()
		n, err := s.Put(key, "a")
		done(t, "Put", n, err, 1, api.OK)
		n, err = s.Swap(key, 1, "b")
		done(t, "Swap", n, err, 2, api.OK)
		reads(t, s, api.Entry{Key: key, Version: 2, AsOf: 2, Text: "b"})
		n, err = s.Delete(key)
		done(t, "Delete", n, err, 3, api.OK)
		was(t, s, 1, api.Entry{Key: key, Version: 1, AsOf: 1, Text: "a"})
	}
}

func TestNoSuchKey(t *testing.T) {
	s := store.New()
	s.Put(0, "a")
	before := all(t, s)
	for _, key := range wrongKeys {
		n, err := s.Put(key, "a")
		done(t, "Put", n, err, 0, api.ErrRange)
		n, err = s.Delete(key)
		done(t, "Delete", n, err, 0, api.ErrRange)
		n, err = s.Swap(key, 0, "a")
		done(t, "Swap", n, err, 0, api.ErrRange)
		e, err := s.Read(key)
		told(t, "Read", e, err, api.Entry{}, api.ErrRange)
		e, err = s.At(key, 0)
		told(t, "At", e, err, api.Entry{}, api.ErrRange)
	}
	unchanged(t, s, before)
}

// unchanged checks that nothing was done since all told that.
func unchanged(t *testing.T, s *store.Store, before []api.Entry) {
	t.Helper()
	after := all(t, s)
	if len(after) != len(before) {
		t.Fatalf("%d entries are told, %d were before", len(after), len(before))
	}
	for i := range after {
		if after[i] != before[i] {
			t.Errorf("got %+v, was %+v", after[i], before[i])
		}
	}
}

func TestLongTexts(t *testing.T) {
	s := store.New()
	n, err := s.Put(1, text12)
	done(t, "Put of 12 bytes", n, err, 1, api.OK)
	n, err = s.Swap(1, 1, text12)
	done(t, "Swap of 12 bytes", n, err, 2, api.OK)
	reads(t, s, api.Entry{Key: 1, Version: 2, AsOf: 2, Text: text12})
	before := all(t, s)
	for _, text := range []string{text13, strings.Repeat("z", 100_000), strings.Repeat("\u00e4", 7)} {
		n, err = s.Put(1, text)
		done(t, "Put of too many bytes", n, err, 0, api.ErrFull)
		n, err = s.Swap(1, 2, text)
		done(t, "Swap of too many bytes", n, err, 0, api.ErrFull)
	}
	unchanged(t, s, before)
}

func TestTextsAreBytes(t *testing.T) {
	s := store.New()
	for i, text := range []string{"", "\x00\xff\x80", "\n", "\u00e4\u00f6"} {
		n, err := s.Put(6, text)
		done(t, "Put", n, err, i+1, api.OK)
		reads(t, s, api.Entry{Key: 6, Version: i + 1, AsOf: i + 1, Text: text})
	}
}

func TestDeleteOfWhatIsGone(t *testing.T) {
	s := store.New()
	n, err := s.Delete(4)
	done(t, "Delete at first", n, err, 0, api.ErrNone)
	s.Put(4, "")
	n, err = s.Delete(4)
	done(t, "Delete of an empty text", n, err, 2, api.OK)
	before := all(t, s)
	n, err = s.Delete(4)
	done(t, "Delete again", n, err, 0, api.ErrNone)
	unchanged(t, s, before)
	reads(t, s, api.Entry{Key: 4, Version: 2, AsOf: 2, Gone: true})
}

func TestSwapWantsTheVersion(t *testing.T) {
	s := store.New()
	n, err := s.Swap(3, 0, "a")
	done(t, "Swap at first", n, err, 1, api.OK)
	s.Put(2, "other")
	before := all(t, s)
	for _, version := range []int{0, 2, -1, math.MinInt, math.MaxInt} {
		n, err = s.Swap(3, version, "b")
		done(t, "Swap of another version", n, err, 0, api.ErrClash)
	}
	unchanged(t, s, before)
	n, err = s.Swap(3, 1, "b")
	done(t, "Swap", n, err, 3, api.OK)
	s.Delete(3)
	n, err = s.Swap(3, 0, "c")
	done(t, "Swap of what was deleted, as at first", n, err, 0, api.ErrClash)
	n, err = s.Swap(3, 4, "c")
	done(t, "Swap of what was deleted", n, err, 5, api.OK)
	reads(t, s, api.Entry{Key: 3, Version: 5, AsOf: 5, Text: "c"})
}

func TestNoMoreThanMaxSeq(t *testing.T) {
	s := full(t)
	counts(t, s, api.MaxSeq)
	before := all(t, s)
	n, err := s.Put(0, "b")
	done(t, "Put", n, err, 0, api.ErrFull)
	n, err = s.Delete(0)
	done(t, "Delete", n, err, 0, api.ErrFull)
	n, err = s.Swap(0, api.MaxSeq, "b")
	done(t, "Swap", n, err, 0, api.ErrFull)
	unchanged(t, s, before)
	reads(t, s, api.Entry{Key: 0, Version: api.MaxSeq, AsOf: api.MaxSeq, Text: "a"})
	was(t, s, api.MaxSeq, api.Entry{Key: 1, AsOf: api.MaxSeq, Gone: true})
	e, err := s.At(0, api.MaxSeq+1)
	told(t, "At", e, err, api.Entry{}, api.ErrRange)
}

func TestTheLastNumberMayBeAnyCall(t *testing.T) {
	calls := map[string]func(*store.Store) (int, error){
		"Put":    func(s *store.Store) (int, error) { return s.Put(0, "b") },
		"Delete": func(s *store.Store) (int, error) { return s.Delete(0) },
		"Swap":   func(s *store.Store) (int, error) { return s.Swap(0, api.MaxSeq-1, "b") },
	}
	for what, call := range calls {
		s := store.New()
		for range api.MaxSeq - 1 {
			s.Put(0, "a")
		}
		n, err := call(s)
		done(t, what, n, err, api.MaxSeq, api.OK)
	}
}

func TestWhichFaultIsToldFirst(t *testing.T) {
	s := store.New()
	n, err := s.Put(-1, text13)
	done(t, "Put: key ahead of text", n, err, 0, api.ErrRange)
	n, err = s.Swap(api.Keys, 9, text13)
	done(t, "Swap: key ahead of text and version", n, err, 0, api.ErrRange)
	n, err = s.Swap(0, 9, text13)
	done(t, "Swap: text ahead of version", n, err, 0, api.ErrFull)

	s = full(t)
	n, err = s.Put(api.Keys, "a")
	done(t, "full Put: key first", n, err, 0, api.ErrRange)
	n, err = s.Delete(-1)
	done(t, "full Delete: key first", n, err, 0, api.ErrRange)
	n, err = s.Delete(1)
	done(t, "full Delete: none ahead of full", n, err, 0, api.ErrNone)
	n, err = s.Swap(-1, 0, "a")
	done(t, "full Swap: key first", n, err, 0, api.ErrRange)
	n, err = s.Swap(0, 1, "a")
	done(t, "full Swap: version ahead of full", n, err, 0, api.ErrClash)
	n, err = s.Swap(0, 1, text13)
	done(t, "full Swap: text ahead of version", n, err, 0, api.ErrFull)
}

func TestStoresShareNothing(t *testing.T) {
	a, b := store.New(), store.New()
	a.Put(0, "a")
	counts(t, b, 0)
	reads(t, b, api.Entry{Key: 0, Gone: true})
	b.Put(1, "b")
	reads(t, a, api.Entry{Key: 0, Version: 1, AsOf: 1, Text: "a"})
	reads(t, a, api.Entry{Key: 1, AsOf: 1, Gone: true})
}

// TestWhatWasIsNeverOtherwise plays many calls, keeps what each key was behind each number, and asks for all of it at the end.
func TestWhatWasIsNeverOtherwise(t *testing.T) {
	s := store.New()
	now := make([]api.Entry, api.Keys)
	for key := range now {
		now[key] = api.Entry{Key: key, Gone: true}
	}
	then := [][]api.Entry{append([]api.Entry(nil), now...)}
	for i := 0; len(then) <= api.MaxSeq; i++ {
		key, next := i*5%api.Keys, len(then)
		text := strings.Repeat("y", i%(api.MaxText+1))
		e := api.Entry{Key: key, Version: next, Text: text}
		var n int
		var err error
		switch {
		case i%3 == 0 && !now[key].Gone:
			n, err = s.Delete(key)
			e.Gone, e.Text = true, ""
		case i%3 == 1:
			n, err = s.Swap(key, now[key].Version, text)
		default:
			n, err = s.Put(key, text)
		}
		done(t, "call", n, err, next, api.OK)
		now[key] = e
		then = append(then, append([]api.Entry(nil), now...))
	}
	for seq, row := range then {
		for _, e := range row {
			e.AsOf = seq
			was(t, s, seq, e)
		}
	}
}

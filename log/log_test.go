package log_test

import (
	"math"
	"math/rand/v2"
	"strings"
	"testing"

	"beaconmere/api"
	"beaconmere/log"
	"beaconmere/plain"
	"beaconmere/store"
)

var wrongKeys = []int{-1, 8, 9, -8, 15, 16, 255, 256, 1 << 32, math.MinInt, math.MaxInt}

// texts are of even and odd lengths, and of those at both ends.
var texts = []string{"", "a", "ab", "tea", "\x00\xff\n ", "abcdefghijk", "abcdefghijkl"}

var longTexts = []string{"abcdefghijklm", strings.Repeat("a", 256), strings.Repeat("a", 257), strings.Repeat("a", 1<<16)}

// keeps are some at both ends, and beyond, where so many bytes are not safe.
func keeps(loose int) []int {
	l := []int{math.MinInt, math.MinInt + 1, -1 << 32, -2, -1}
	for keep := range loose + 4 {
		l = append(l, keep)
	}
	return append(l, 1<<32, math.MaxInt-1, math.MaxInt)
}

// has makes an entry with a text.
func has(key, version, asOf int, text string) api.Entry {
	return api.Entry{Key: key, Version: version, AsOf: asOf, Text: text}
}

// gone makes an entry of a key that is Gone.
func gone(key, version, asOf int) api.Entry {
	return api.Entry{Key: key, Version: version, AsOf: asOf, Gone: true}
}

func puts(t *testing.T, l *log.Log, key int, text string, want int, wantErr api.Errno) {
	t.Helper()
	if n, err := l.Put(key, text); n != want || plain.Told(err) != wantErr {
		t.Errorf("Put(%d, %.20q): got %d, %v, want %d, %v", key, text, n, err, want, wantErr)
	}
}

func deletes(t *testing.T, l *log.Log, key, want int, wantErr api.Errno) {
	t.Helper()
	if n, err := l.Delete(key); n != want || plain.Told(err) != wantErr {
		t.Errorf("Delete(%d): got %d, %v, want %d, %v", key, n, err, want, wantErr)
	}
}

func syncs(t *testing.T, l *log.Log, want api.Errno) {
	t.Helper()
	if err := l.Sync(); plain.Told(err) != want {
		t.Errorf("Sync: got %v, want %v", err, want)
	}
}

func reads(t *testing.T, l *log.Log, key int, want api.Entry, wantErr api.Errno) {
	t.Helper()
	if e, err := l.Read(key); e != want || plain.Told(err) != wantErr {
		t.Errorf("Read(%d): got %+v, %v, want %+v, %v", key, e, err, want, wantErr)
	}
}

// counts checks the numbers that a log tells of itself.
func counts(t *testing.T, l *log.Log, seq, bytes, safe int) {
	t.Helper()
	if l.Seq() != seq || l.Bytes() != bytes || l.Safe() != safe {
		t.Errorf("Seq, Bytes, Safe: got %d, %d, %d, want %d, %d, %d", l.Seq(), l.Bytes(), l.Safe(), seq, bytes, safe)
	}
}

// told is all that a log tells without being changed.
type told struct {
	seq, bytes, safe int
	entries          [8]api.Entry
}

func all(t *testing.T, l *log.Log) told {
	t.Helper()
	x := told{seq: l.Seq(), bytes: l.Bytes(), safe: l.Safe()}
	for key := range x.entries {
		var err error
		if x.entries[key], err = l.Read(key); err != nil {
			t.Fatalf("Read(%d): %v", key, err)
		}
	}
	return x
}

// unchanged has some calls change nothing that is told.
func unchanged(t *testing.T, l *log.Log, calls func()) {
	t.Helper()
	was := all(t, l)
	calls()
	if now := all(t, l); now != was {
		t.Errorf("got %+v, was %+v", now, was)
	}
}

// busy is a log of 6 things that were done, of which so many are safe.
func busy(t *testing.T, safe int) *log.Log {
	t.Helper()
	l := log.New()
	for i, do := range []func() (int, error){
		func() (int, error) { return l.Put(3, "tea") },
		func() (int, error) { return l.Put(5, "") },
		func() (int, error) { return l.Delete(3) },
		func() (int, error) { return l.Put(0, "abcdefghijkl") },
		func() (int, error) { return l.Put(5, "b") },
		func() (int, error) { return l.Put(7, "\x00\x01\x0d") },
	} {
		if i == safe {
			syncs(t, l, api.OK)
		}
		if n, err := do(); n != i+1 || err != nil {
			t.Fatalf("got %d, %v", n, err)
		}
	}
	if safe == 6 {
		syncs(t, l, api.OK)
	}
	return l
}

// busyHas is what busy has of its first so many things.
func busyHas(many int) [8]api.Entry {
	var own [8]api.Entry
	for key := range own {
		own[key] = gone(key, 0, many)
	}
	for i, e := range []api.Entry{has(3, 1, 0, "tea"), has(5, 2, 0, ""), gone(3, 3, 0), has(0, 4, 0, "abcdefghijkl"), has(5, 5, 0, "b"), has(7, 6, 0, "\x00\x01\x0d")} {
		if i < many {
			e.AsOf = many
			own[e.Key] = e
		}
	}
	return own
}

// ends are where the records of what busy does end.
func ends(t *testing.T) []int {
	t.Helper()
	l := []int{0}
	for _, d := range []done{{3, false, "tea"}, {5, false, ""}, {3, true, ""}, {0, false, "abcdefghijkl"}, {5, false, "b"}, {7, false, "\x00\x01\x0d"}} {
		l = append(l, l[len(l)-1]+size(t, d))
	}
	return l
}

// stopped has a busy log stop at a Put of which half a record is there.
func stopped(t *testing.T, safe int) *log.Log {
	t.Helper()
	l := busy(t, safe)
	l.Fail(0)
	puts(t, l, 1, "half", 0, api.ErrState)
	return l
}

// full is a log that has as many things as may be, with the keys 6 and 7 Gone, of which all but the last so many are safe.
func full(t *testing.T, loose int) *log.Log {
	t.Helper()
	l := log.New()
	for i := range 1000 {
		if i == 1000-loose {
			syncs(t, l, api.OK)
		}
		puts(t, l, i%6, "a", i+1, api.OK)
	}
	if loose == 0 {
		syncs(t, l, api.OK)
	}
	return l
}

func TestNew(t *testing.T) {
	l := log.New()
	counts(t, l, 0, 0, 0)
	for key := range api.Keys {
		reads(t, l, key, gone(key, 0, 0), api.OK)
	}
}

func TestLogsShareNothing(t *testing.T) {
	a, b := log.New(), log.New()
	a.Fail(1)
	puts(t, a, 3, "a", 1, api.OK)
	counts(t, b, 0, 0, 0)
	puts(t, b, 3, "b", 1, api.OK)
	deletes(t, b, 3, 2, api.OK)
	syncs(t, b, api.OK)
	syncs(t, a, api.ErrState)
	puts(t, b, 3, "c", 3, api.OK)
	a.Crash(0)
	counts(t, a, 0, 0, 0)
	reads(t, b, 3, has(3, 3, 3, "c"), api.OK)
	reads(t, a, 3, gone(3, 0, 0), api.OK)
}

// TestPutAndDelete has each key get each text, and be deleted: each time at least two bytes more are there, and none is safe.
func TestPutAndDelete(t *testing.T) {
	for key := range api.Keys {
		for _, text := range texts {
			l := log.New()
			puts(t, l, key, text, 1, api.OK)
			reads(t, l, key, has(key, 1, 1, text), api.OK)
			first := l.Bytes()
			deletes(t, l, key, 2, api.OK)
			reads(t, l, key, gone(key, 2, 2), api.OK)
			second := l.Bytes()
			puts(t, l, key, text, 3, api.OK)
			reads(t, l, key, has(key, 3, 3, text), api.OK)
			if third := l.Bytes(); first < 2 || second < first+2 || third < second+2 {
				t.Errorf("key %d, %q: bytes are %d, %d, %d", key, text, first, second, third)
			}
			counts(t, l, 3, l.Bytes(), 0)
		}
	}
}

// TestAsTheStore plays the same on a store: the numbers, the errors, what is read. A record is there for each that goes, no byte for one that does not.
func TestAsTheStore(t *testing.T) {
	r := rand.New(rand.NewPCG(19, 1))
	for range 20 {
		l, s := log.New(), store.New()
		for range 200 {
			bytes := l.Bytes()
			key, text := r.IntN(10)-1, strings.Repeat("a", r.IntN(14))
			n, err := 0, error(nil)
			if r.IntN(2) == 0 {
				n, err = s.Delete(key)
				deletes(t, l, key, n, plain.Told(err))
			} else {
				n, err = s.Put(key, text)
				puts(t, l, key, text, n, plain.Told(err))
			}
			if err != nil {
				counts(t, l, s.Seq(), bytes, 0)
			} else if l.Bytes() < bytes+2 {
				t.Errorf("%d bytes were there, now %d", bytes, l.Bytes())
			}
			counts(t, l, s.Seq(), l.Bytes(), 0)
			for key := range 8 {
				e, err := s.Read(key)
				reads(t, l, key, e, plain.Told(err))
			}
		}
	}
}

func TestReadIsRefused(t *testing.T) {
	crashed := stopped(t, 2)
	crashed.Crash(3)
	for _, l := range []*log.Log{log.New(), busy(t, 0), busy(t, 4), stopped(t, 3), crashed} {
		unchanged(t, l, func() {
			for _, key := range wrongKeys {
				reads(t, l, key, api.Entry{}, api.ErrRange)
			}
		})
	}
}

// refusals are calls that a store refuses, with the key 6 Gone.
func refusals(t *testing.T, l *log.Log) {
	t.Helper()
	for _, key := range wrongKeys {
		for _, text := range append(longTexts, texts...) {
			puts(t, l, key, text, 0, api.ErrRange)
		}
		deletes(t, l, key, 0, api.ErrRange)
	}
	for key := range api.Keys {
		for _, text := range longTexts {
			puts(t, l, key, text, 0, api.ErrFull)
		}
	}
	deletes(t, l, 6, 0, api.ErrNone)
}

func TestWhatTheStoreRefuses(t *testing.T) {
	for _, l := range []*log.Log{log.New(), busy(t, 0), busy(t, 4), busy(t, 6)} {
		unchanged(t, l, func() { refusals(t, l) })
		seq := l.Seq()
		puts(t, l, 6, "a", seq+1, api.OK)
		deletes(t, l, 6, seq+2, api.OK)
		unchanged(t, l, func() { refusals(t, l) })
	}
}

// TestWhatIsRefusedIsNoStep has a log that is to stop at its next step, or the one behind, refuse things: it does not stop by them.
func TestWhatIsRefusedIsNoStep(t *testing.T) {
	for n := range 4 {
		l := busy(t, 2)
		l.Fail(n)
		for i := range n {
			unchanged(t, l, func() { refusals(t, l) })
			puts(t, l, 1, "a", 7+i, api.OK)
		}
		unchanged(t, l, func() { refusals(t, l) })
		puts(t, l, 1, "b", 0, api.ErrState)
		counts(t, l, 6+n, l.Bytes(), ends(t)[2])
	}
}

func TestFull(t *testing.T) {
	l := full(t, 1000)
	refused := func() {
		refusals(t, l)
		puts(t, l, 0, "a", 0, api.ErrFull)
		puts(t, l, 7, "", 0, api.ErrFull)
		deletes(t, l, 0, 0, api.ErrFull)
		deletes(t, l, 7, 0, api.ErrNone)
	}
	unchanged(t, l, refused)
	l.Fail(0)
	unchanged(t, l, refused)
	syncs(t, l, api.ErrState)
	unchanged(t, l, func() {
		puts(t, l, 0, "a", 0, api.ErrState)
		deletes(t, l, 7, 0, api.ErrState)
	})
	l.Crash(math.MaxInt - 1)
	counts(t, l, 1000, 1000*size(t, done{0, false, "a"}), l.Bytes())
	unchanged(t, l, refused)
}

// TestCrashOfAFullLog has room again as far as something was lost.
func TestCrashOfAFullLog(t *testing.T) {
	one := size(t, done{0, false, "a"})
	for loose := range 4 {
		for keep := range loose + 1 {
			l := full(t, loose)
			l.Crash(keep * one)
			seq := 1000 - loose + keep
			counts(t, l, seq, seq*one, seq*one)
			for ; seq < 1000; seq++ {
				puts(t, l, 7, "b", seq+1, api.OK)
			}
			puts(t, l, 7, "b", 0, api.ErrFull)
			counts(t, l, 1000, 1000*one, (1000-loose+keep)*one)
		}
	}
}

// TestSync has all that is there be safe, and tells nothing else, as often as one likes.
func TestSync(t *testing.T) {
	l := log.New()
	unchanged(t, l, func() { syncs(t, l, api.OK) })
	for many := range 7 {
		l := busy(t, many)
		e := ends(t)
		counts(t, l, 6, e[6], e[many])
		was := all(t, l)
		syncs(t, l, api.OK)
		was.safe = was.bytes
		if now := all(t, l); now != was {
			t.Errorf("got %+v, want %+v", now, was)
		}
		unchanged(t, l, func() {
			syncs(t, l, api.OK)
			syncs(t, l, api.OK)
		})
		puts(t, l, 2, "a", 7, api.OK)
		counts(t, l, 7, e[6]+size(t, done{2, false, "a"}), e[6])
	}
}

// step does the i-th of a row of steps that are taken, Puts, a Delete and Syncs, and tells what went wrong.
func step(l *log.Log, i int) error {
	var err error
	switch i % 5 {
	case 0:
		_, err = l.Put(4, "a")
	case 1:
		err = l.Sync()
	case 2:
		_, err = l.Delete(4)
	case 3:
		_, err = l.Put(5, "tea")
	default:
		err = l.Sync()
	}
	return err
}

// TestFailAtEachStep has a row of steps, that begins with each kind, stop at just the one that Fail says.
func TestFailAtEachStep(t *testing.T) {
	for ahead := range 5 {
		for n := range 25 {
			l, other := log.New(), log.New()
			for i := range ahead {
				_, _ = step(l, i), step(other, i)
			}
			l.Fail(n)
			for i := range n {
				if err := step(l, ahead+i); err != nil {
					t.Fatalf("Fail(%d), %d ahead: step %d: %v", n, ahead, i, err)
				}
				_ = step(other, ahead+i)
			}
			if all(t, l) != all(t, other) {
				t.Errorf("Fail(%d), %d ahead: not as without it, ahead of the stop", n, ahead)
			}
			for i := range 6 {
				if err := step(l, ahead+n+i); plain.Told(err) != api.ErrState {
					t.Fatalf("Fail(%d), %d ahead: step %d: %v, want ErrState", n, ahead, n+i, err)
				}
			}
		}
	}
}

// TestFailBelow0 never stops it, and takes back what was said ahead.
func TestFailBelow0(t *testing.T) {
	for _, n := range []int{-1, -2, -1 << 32, math.MinInt} {
		l := busy(t, 1)
		l.Fail(n)
		for i := range 200 {
			if err := step(l, i); err != nil {
				t.Fatalf("Fail(%d): step %d: %v", n, i, err)
			}
		}
		l.Fail(0)
		l.Fail(n)
		for i := range 200 {
			if err := step(l, i); err != nil {
				t.Fatalf("Fail(0), Fail(%d): step %d: %v", n, i, err)
			}
		}
	}
}

// TestFailFarOff does not come to its stop.
func TestFailFarOff(t *testing.T) {
	for _, n := range []int{200, 1 << 32, math.MaxInt} {
		l := log.New()
		l.Fail(n)
		for i := range 200 {
			if err := step(l, i); err != nil {
				t.Fatalf("Fail(%d): step %d: %v", n, i, err)
			}
		}
	}
}

// TestFailBehindManySteps has more steps be taken ahead of the stop than a store has numbers.
func TestFailBehindManySteps(t *testing.T) {
	for _, n := range []int{255, 256, 999, 1000, 1001, 5000, 1<<16 + 1} {
		l := busy(t, 3)
		l.Fail(n)
		for range n {
			if err := l.Sync(); err != nil {
				t.Fatalf("Fail(%d): %v", n, err)
			}
		}
		syncs(t, l, api.ErrState)
	}
}

// TestFailInPlaceOfAnother has the last Fail alone count, from where it is said on, whatever steps were taken behind those ahead.
func TestFailInPlaceOfAnother(t *testing.T) {
	for first := -1; first < 6; first++ {
		for between := range 6 {
			for second := range 6 {
				if first >= 0 && between > first {
					continue
				}
				l := busy(t, 0)
				l.Fail(first)
				for i := range between {
					if err := step(l, i); err != nil {
						t.Fatalf("step %d: %v", i, err)
					}
				}
				l.Fail(second)
				for i := range second + 1 {
					want := api.OK
					if i == second {
						want = api.ErrState
					}
					if err := step(l, between+i); plain.Told(err) != want {
						t.Errorf("Fail(%d), %d steps, Fail(%d): step %d: %v, want %v", first, between, second, i, err, want)
					}
				}
			}
		}
	}
}

// TestFailTellsNothing has it be seen in nothing that is told ahead of the stop.
func TestFailTellsNothing(t *testing.T) {
	for n := -1; n < 3; n++ {
		l := busy(t, 4)
		unchanged(t, l, func() {
			l.Fail(n)
			reads(t, l, 3, gone(3, 3, 6), api.OK)
			refusals(t, l)
		})
	}
}

// TestStopAtAPut has half of each record be there, rounded down, and the store as it was: behind that no number of bytes that are kept makes it a whole one.
func TestStopAtAPut(t *testing.T) {
	for key := range api.Keys {
		for many := range 13 {
			text := strings.Repeat("\x01", many)
			whole := size(t, done{key, false, text})
			for _, keep := range keeps(ends(t)[6] - ends(t)[2] + whole/2) {
				l := busy(t, 2)
				was := all(t, l)
				l.Fail(0)
				puts(t, l, key, text, 0, api.ErrState)
				was.bytes += whole / 2
				if now := all(t, l); now != was {
					t.Fatalf("Put(%d, %q): got %+v, want %+v", key, text, now, was)
				}
				leaves(t, l, 2, keep)
			}
		}
	}
}

// leaves has a busy log, with so many things safe, crash, and checks what is left of it.
func leaves(t *testing.T, l *log.Log, safe, keep int) {
	t.Helper()
	l.Crash(keep)
	many, e := safe, ends(t)
	for many < 6 && e[many+1]-e[safe] <= keep {
		many++
	}
	counts(t, l, many, e[many], e[many])
	if now := all(t, l); now.entries != busyHas(many) {
		t.Errorf("Crash(%d), %d safe: got %+v, want %+v", keep, safe, now.entries, busyHas(many))
	}
	syncs(t, l, api.OK)
	puts(t, l, 2, "on", many+1, api.OK)
	counts(t, l, many+1, e[many]+size(t, done{2, false, "on"}), e[many])
}

func TestStopAtADelete(t *testing.T) {
	for key, text := range map[int]string{0: "abcdefghijkl", 5: "b", 7: "\x00\x01\x0d"} {
		whole := size(t, done{key, true, ""})
		for _, keep := range keeps(ends(t)[6] - ends(t)[3] + whole/2) {
			l := busy(t, 3)
			was := all(t, l)
			l.Fail(0)
			deletes(t, l, key, 0, api.ErrState)
			was.bytes += whole / 2
			if now := all(t, l); now != was {
				t.Fatalf("Delete(%d): got %+v, want %+v", key, now, was)
			}
			if e, _ := l.Read(key); e.Text != text || e.Gone {
				t.Errorf("Delete(%d): it is %+v", key, e)
			}
			leaves(t, l, 3, keep)
		}
	}
}

func TestStopAtASync(t *testing.T) {
	for safe := range 7 {
		for _, keep := range keeps(ends(t)[6] - ends(t)[safe]) {
			l := busy(t, safe)
			l.Fail(0)
			unchanged(t, l, func() { syncs(t, l, api.ErrState) })
			leaves(t, l, safe, keep)
		}
	}
	l := log.New()
	l.Fail(0)
	unchanged(t, l, func() { syncs(t, l, api.ErrState) })
}

// TestBehindTheStop has all that changes something be refused, ahead of what the store would say, whatever is said of Fail, and what tells go on.
func TestBehindTheStop(t *testing.T) {
	atSync := busy(t, 4)
	atSync.Fail(0)
	syncs(t, atSync, api.ErrState)
	atDelete := busy(t, 1)
	atDelete.Fail(1)
	syncs(t, atDelete, api.OK)
	deletes(t, atDelete, 5, 0, api.ErrState)
	for _, l := range []*log.Log{atSync, atDelete, stopped(t, 0), stopped(t, 6)} {
		unchanged(t, l, func() {
			for _, n := range []int{-2, 3, 0, -1, 1, math.MaxInt, math.MinInt} {
				for _, key := range append(wrongKeys, 0, 3, 5, 7) {
					for _, text := range append(longTexts, texts...) {
						puts(t, l, key, text, 0, api.ErrState)
					}
					deletes(t, l, key, 0, api.ErrState)
				}
				syncs(t, l, api.ErrState)
				l.Fail(n)
			}
		})
		for key, e := range busyHas(6) {
			reads(t, l, key, e, api.OK)
		}
	}
}

// TestCrash has each number of bytes be kept, each number of things safe, of a log that had stopped and of one that had not.
func TestCrash(t *testing.T) {
	e := ends(t)
	half := size(t, done{1, false, "half"}) / 2
	for safe := range 7 {
		for _, keep := range keeps(e[6] - e[safe] + half) {
			leaves(t, busy(t, safe), safe, keep)
			leaves(t, stopped(t, safe), safe, keep)
		}
	}
}

func TestCrashAtFirst(t *testing.T) {
	for _, keep := range keeps(0) {
		l := log.New()
		unchanged(t, l, func() { l.Crash(keep) })
		counts(t, l, 0, 0, 0)
		puts(t, l, 3, "a", 1, api.OK)
		reads(t, l, 3, has(3, 1, 1, "a"), api.OK)
		l = log.New()
		l.Fail(0)
		puts(t, l, 3, "a", 0, api.ErrState)
		l.Crash(keep)
		counts(t, l, 0, 0, 0)
		reads(t, l, 3, gone(3, 0, 0), api.OK)
	}
}

// TestCrashAgain has nothing be lost by another one, as all that is left is safe.
func TestCrashAgain(t *testing.T) {
	e := ends(t)
	for safe := range 7 {
		for keep := range e[6] - e[safe] + 1 {
			for _, again := range keeps(3) {
				l := stopped(t, safe)
				l.Crash(keep)
				unchanged(t, l, func() { l.Crash(again) })
			}
		}
	}
}

// TestCrashForgetsFail has a Fail be forgotten, be it still to come or have it stopped the log.
func TestCrashForgetsFail(t *testing.T) {
	for n := range 4 {
		for steps := range 7 {
			l := busy(t, 6)
			l.Fail(n)
			for i := range steps {
				_ = step(l, i)
			}
			l.Crash(0)
			for i := range 40 {
				if err := step(l, i); err != nil {
					t.Fatalf("Fail(%d), %d steps, Crash: step %d: %v", n, steps, i, err)
				}
			}
			l.Fail(0)
			puts(t, l, 1, "a", 0, api.ErrState)
		}
	}
}

// TestFailBehindTheStopIsForgotten has a Fail that was said to a log that stands be forgotten, too.
func TestFailBehindTheStopIsForgotten(t *testing.T) {
	for n := -1; n < 3; n++ {
		l := stopped(t, 6)
		l.Fail(n)
		l.Crash(0)
		for i := range 10 {
			if err := step(l, i); err != nil {
				t.Fatalf("Fail(%d), Crash: step %d: %v", n, i, err)
			}
		}
	}
}

// TestWhatWasLostDoesNotComeBack has a log go on where something was cut off, with records that are shorter, longer, or the same.
func TestWhatWasLostDoesNotComeBack(t *testing.T) {
	e := ends(t)
	for keep := range e[6] + 1 {
		for _, text := range texts {
			l := busy(t, 0)
			l.Crash(keep)
			many := l.Seq()
			puts(t, l, 2, text, many+1, api.OK)
			bytes := e[many] + size(t, done{2, false, text})
			for range 2 {
				l.Crash(math.MaxInt)
				counts(t, l, many+1, bytes, bytes)
				want := busyHas(many)
				for key := range want {
					want[key].AsOf++
				}
				want[2] = has(2, many+1, many+1, text)
				if now := all(t, l); now.entries != want {
					t.Fatalf("Crash(%d), Put %q, Crash: got %+v, want %+v", keep, text, now.entries, want)
				}
			}
		}
	}
}

// kept has some things be done, and crashes such a log at each byte, with nothing safe and with each of them the last one that is.
func kept(t *testing.T, things ...done) {
	t.Helper()
	for safe := range len(things) + 1 {
		for keep := 0; ; keep++ {
			l, o := log.New(), newModel()
			for i, d := range things {
				if i == safe {
					o.syncs(t, l)
				}
				o.does(t, l, d)
			}
			loose := l.Bytes() - l.Safe()
			o.crashes(t, l, keep)
			o.agrees(t, l)
			if keep > loose {
				break
			}
		}
	}
}

// TestEachByteInATextIsKept has each byte stand alone, first and last in a text.
func TestEachByteInATextIsKept(t *testing.T) {
	for b := range 256 {
		x := string([]byte{byte(b)})
		kept(t, done{b % 8, false, x}, done{3, false, x + "a"}, done{7, false, "a" + x})
	}
	var row []done
	for b := 0; b < 256; b += 12 {
		var text []byte
		for i := range 12 {
			text = append(text, byte(b+i))
		}
		row = append(row, done{len(row) % 8, false, string(text)})
	}
	kept(t, row...)
}

// TestTextsLikeRecords has texts, be they whole or cut, not be taken for records: pairs of small numbers look like keys, kinds and lengths.
func TestTextsLikeRecords(t *testing.T) {
	for a := range 18 {
		for b := range 18 {
			two := string([]byte{byte(a), byte(b)})
			kept(t, done{1, false, two}, done{1, true, ""}, done{6, false, "x" + two})
		}
	}
	for a := range 18 {
		kept(t, done{2, false, strings.Repeat(string([]byte{byte(a)}), 12)}, done{0, false, "x"})
	}
	for _, text := range []string{"\n\n", "0 1 a\n", "put 1 a", "{}", ",", "\"", "3:a", "a|b", "\r\n", "\x1e\x1f", "\xff\xff", "\x00\x00\x00\x00"} {
		kept(t, done{4, false, text}, done{4, true, ""}, done{4, false, text + text[:1]})
	}
}

// TestTextsAreTheCallers has the bytes of which a text was made be written into behind the call.
func TestTextsAreTheCallers(t *testing.T) {
	l := log.New()
	b := []byte("tea")
	text := string(b)
	puts(t, l, 3, text, 1, api.OK)
	copy(b, "xyz")
	reads(t, l, 3, has(3, 1, 1, "tea"), api.OK)
	l.Crash(math.MaxInt)
	reads(t, l, 3, has(3, 1, 1, "tea"), api.OK)
	if text != "tea" {
		t.Errorf("the text became %q", text)
	}
}

// TestWhatWasToldStays keeps what was read of plays, and holds it against what it was.
func TestWhatWasToldStays(t *testing.T) {
	r := rand.New(rand.NewPCG(19, 2))
	l, o := log.New(), newModel()
	var entries []api.Entry
	var were []string
	for range 500 {
		o.play(t, r, l)
		for _, e := range all(t, l).entries {
			entries, were = append(entries, e), append(were, strings.Clone(e.Text))
		}
	}
	for i, e := range entries {
		if e.Text != were[i] {
			t.Fatalf("what was read as %q became %q", were[i], e.Text)
		}
	}
}

// done is a thing that was done: a key has a text, or is Gone.
type done struct {
	key  int
	gone bool
	text string
}

// size of the record of a thing: how many bytes it makes more of a log of its own.
func size(t *testing.T, d done) int {
	t.Helper()
	l := log.New()
	if d.gone {
		puts(t, l, d.key, "", 1, api.OK)
		was := l.Bytes()
		deletes(t, l, d.key, 2, api.OK)
		return l.Bytes() - was
	}
	puts(t, l, d.key, d.text, 1, api.OK)
	return l.Bytes()
}

// model has a log by other means: all things in a row, and of each the place behind its record.
type model struct {
	things  []done
	ends    []int
	bytes   int
	safe    int
	stopped bool
	toStop  int // the number of the step at which it stops, as count has them; 0: none
	count   int
}

func newModel() *model { return &model{} }

// newest is the last thing of a key, from 1 on; 0: none.
func (o *model) newest(key int) int {
	last := 0
	for i, d := range o.things {
		if d.key == key {
			last = i + 1
		}
	}
	return last
}

func (o *model) entry(key int) api.Entry {
	i := o.newest(key)
	if i == 0 || o.things[i-1].gone {
		return gone(key, i, len(o.things))
	}
	return has(key, i, len(o.things), o.things[i-1].text)
}

// refuses tells what is wrong with a thing by itself.
func (o *model) refuses(d done) api.Errno {
	switch {
	case o.stopped:
		return api.ErrState
	case d.key < 0 || d.key > 7:
		return api.ErrRange
	case len(d.text) > 12:
		return api.ErrFull
	case d.gone && o.entry(d.key).Gone:
		return api.ErrNone
	case len(o.things) == 1000:
		return api.ErrFull
	}
	return api.OK
}

// goes counts a step, and tells whether it goes.
func (o *model) goes() bool {
	o.count++
	o.stopped = o.count == o.toStop
	return !o.stopped
}

// does has a thing be done to a log as the model has it.
func (o *model) does(t *testing.T, l *log.Log, d done) {
	t.Helper()
	n, e := 0, o.refuses(d)
	if e == api.OK {
		bytes := size(t, d)
		if o.goes() {
			o.things = append(o.things, d)
			o.bytes += bytes
			o.ends = append(o.ends, o.bytes)
			n = len(o.things)
		} else {
			o.bytes += bytes / 2
			e = api.ErrState
		}
	}
	if d.gone {
		deletes(t, l, d.key, n, e)
	} else {
		puts(t, l, d.key, d.text, n, e)
	}
}

func (o *model) syncs(t *testing.T, l *log.Log) {
	t.Helper()
	if o.stopped || !o.goes() {
		syncs(t, l, api.ErrState)
		return
	}
	o.safe = o.bytes
	syncs(t, l, api.OK)
}

func (o *model) fails(l *log.Log, n int) {
	o.toStop = 0
	if n >= 0 {
		o.toStop = o.count + 1 + n
	}
	l.Fail(n)
}

func (o *model) crashes(t *testing.T, l *log.Log, keep int) {
	t.Helper()
	there := o.safe
	for i := 0; i < keep && there < o.bytes; i++ {
		there++
	}
	many := 0
	for many < len(o.ends) && o.ends[many] <= there {
		many++
	}
	o.things, o.ends = o.things[:many:many], o.ends[:many:many]
	o.bytes = 0
	if many > 0 {
		o.bytes = o.ends[many-1]
	}
	if o.bytes < o.safe {
		t.Fatalf("the model lost what was safe")
	}
	o.safe, o.stopped, o.toStop = o.bytes, false, 0
	l.Crash(keep)
}

// agrees checks all that a log tells.
func (o *model) agrees(t *testing.T, l *log.Log) {
	t.Helper()
	counts(t, l, len(o.things), o.bytes, o.safe)
	for key := range 8 {
		reads(t, l, key, o.entry(key), api.OK)
	}
	reads(t, l, 8, api.Entry{}, api.ErrRange)
}

// some is a thing by chance, now and then one that is refused.
func some(r *rand.Rand) done {
	d := done{key: r.IntN(8), gone: r.IntN(4) == 0}
	if r.IntN(12) == 0 {
		d.key = wrongKeys[r.IntN(len(wrongKeys))]
	}
	if d.gone {
		return d
	}
	var text []byte
	for range r.IntN(13) + r.IntN(15)/14 {
		text = append(text, byte(r.IntN(16)+r.IntN(2)*r.IntN(241)))
	}
	d.text = string(text)
	return d
}

// play has a call by chance go as the model has it.
func (o *model) play(t *testing.T, r *rand.Rand, l *log.Log) {
	t.Helper()
	switch n := r.IntN(40); {
	case n < 28:
		o.does(t, l, some(r))
	case n < 34:
		o.syncs(t, l)
	case n < 37:
		o.fails(l, r.IntN(10)-2)
	case n < 38 || o.stopped:
		o.crashes(t, l, r.IntN(o.bytes-o.safe+4)-2)
	}
}

func TestPlaysByChance(t *testing.T) {
	r := rand.New(rand.NewPCG(19, 3))
	for range 1500 {
		l, o := log.New(), newModel()
		for range 80 {
			o.play(t, r, l)
			o.agrees(t, l)
			if t.Failed() {
				return
			}
		}
	}
}

// TestLongPlaysByChance goes on until the store is full, and beyond, with a crash only now and then.
func TestLongPlaysByChance(t *testing.T) {
	r := rand.New(rand.NewPCG(19, 4))
	for range 3 {
		l, o := log.New(), newModel()
		greatest := 0
		for range 4000 {
			if r.IntN(10) == 0 || o.stopped {
				o.play(t, r, l)
			} else {
				o.does(t, l, some(r))
			}
			o.agrees(t, l)
			if t.Failed() {
				return
			}
			greatest = max(greatest, l.Seq())
		}
		if greatest != 1000 {
			t.Errorf("the store was never full: %d", greatest)
		}
	}
}

// shortCalls are calls on few keys, each held against the model.
func shortCalls(t *testing.T) []func(*log.Log, *model) {
	var calls []func(*log.Log, *model)
	for _, d := range []done{{3, false, "a"}, {3, true, ""}, {4, false, ""}, {8, false, "a"}} {
		calls = append(calls, func(l *log.Log, o *model) { o.does(t, l, d) })
	}
	for _, n := range []int{-1, 0, 1} {
		calls = append(calls, func(l *log.Log, o *model) { o.fails(l, n) })
	}
	for _, keep := range []int{-1, 1, 2, 5, 100} {
		calls = append(calls, func(l *log.Log, o *model) { o.crashes(t, l, keep) })
	}
	return append(calls, func(l *log.Log, o *model) { o.syncs(t, l) })
}

// TestEachShortPlay has each row of five such calls go as the model has it.
func TestEachShortPlay(t *testing.T) {
	calls := shortCalls(t)
	rows := 1
	for range 5 {
		rows *= len(calls)
	}
	for row := range rows {
		l, o := log.New(), newModel()
		for range 5 {
			calls[row%len(calls)](l, o)
			row /= len(calls)
		}
		o.agrees(t, l)
		if t.Failed() {
			return
		}
	}
}

package mail_test

import (
	"fmt"
	"math"
	"math/rand/v2"
	"slices"
	"strings"
	"testing"

	"beaconmere/api"
	"beaconmere/entry"
	"beaconmere/mail"
	"beaconmere/plain"
	"beaconmere/store"
)

type letters = []api.Letter

// cuts is which ways are to be cut: from, to.
type cuts = [api.Nodes][api.Nodes]bool

var wrongNodes = []int{-1, 6, 7, -6, 255, 256, 1 << 32, math.MinInt, math.MaxInt}

// farPlaces are no letter's places, however many there are.
var farPlaces = []int{-1, -2, 40, 41, -40, 256, 1 << 32, math.MinInt, math.MaxInt}

var text12 = strings.Repeat("z", api.MaxText)

var text13 = strings.Repeat("z", api.MaxText+1)

// rightEntries have nothing wrong, the edges among them.
var rightEntries = []api.Entry{
	{},
	{Gone: true},
	{Key: 7, Version: 1000, AsOf: 1000, Text: "a"},
	{Key: 7, AsOf: 1000, Gone: true},
	{Key: 3, AsOf: 1000, Text: text12},
	{Key: 3, Version: 5, AsOf: 5},
	{Key: 3, Version: 5, AsOf: 9, Text: "\x00\xff\x80"},
}

// wrongEntries have chapter 2's faults; where several apply, the one that is told.
var wrongEntries = []struct {
	e    api.Entry
	want api.Errno
}{
	{api.Entry{Key: -1, Version: 1, AsOf: 2}, api.ErrRange},
	{api.Entry{Key: 8, Version: 1, AsOf: 2}, api.ErrRange},
	{api.Entry{Key: math.MinInt}, api.ErrRange},
	{api.Entry{Key: math.MaxInt}, api.ErrRange},
	{api.Entry{Version: -1, AsOf: 2}, api.ErrRange},
	{api.Entry{Version: 1001, AsOf: 1001}, api.ErrRange},
	{api.Entry{Version: 2, AsOf: 1}, api.ErrRange},
	{api.Entry{AsOf: -1}, api.ErrRange},
	{api.Entry{AsOf: 1001}, api.ErrRange},
	{api.Entry{AsOf: math.MaxInt}, api.ErrRange},
	{api.Entry{AsOf: 2, Text: text13}, api.ErrFull},
	{api.Entry{AsOf: 2, Text: strings.Repeat("z", 100_000)}, api.ErrFull},
	{api.Entry{AsOf: 2, Gone: true, Text: "a"}, api.ErrShape},
	{api.Entry{AsOf: 2, Gone: true, Text: text12}, api.ErrShape},
	{api.Entry{Key: 8, Gone: true, Text: text13}, api.ErrRange},
	{api.Entry{Gone: true, Text: text13}, api.ErrFull},
}

// letter is the n-th of many, no two of which are the same; each way and each key has some.
func letter(n int) api.Letter {
	from := n % api.Nodes
	to := (from + 1 + n/api.Nodes%(api.Nodes-1)) % api.Nodes
	l := between(from, to, n)
	l.Entry.Gone = n%3 == 2
	if !l.Entry.Gone {
		l.Entry.Text = fmt.Sprint("text ", n)
	}
	return l
}

// between is the n-th letter from a node to another one.
func between(from, to, n int) api.Letter {
	return api.Letter{From: from, To: to, Entry: api.Entry{Key: n % api.Keys, Version: n, AsOf: n + n%4}}
}

// those are the first so many letters.
func those(many int) letters {
	var all letters
	for n := range many {
		all = append(all, letter(n))
	}
	return all
}

// without is a copy of letters in which one is left out.
func without(all letters, i int) letters { return slices.Delete(slices.Clone(all), i, i+1) }

// with is a copy of letters behind which there are some more.
func with(all letters, more ...api.Letter) letters { return append(slices.Clone(all), more...) }

func sends(t *testing.T, m *mail.Mail, l api.Letter, want api.Errno) {
	t.Helper()
	if err := m.Send(l); plain.Told(err) != want {
		t.Errorf("Send(%+v): got %v, want %v", l, err, want)
	}
}

func gives(t *testing.T, m *mail.Mail, i int, wantL api.Letter, want api.Errno) {
	t.Helper()
	if l, err := m.Give(i); l != wantL || plain.Told(err) != want {
		t.Errorf("Give(%d): got %+v, %v, want %+v, %v", i, l, err, wantL, want)
	}
}

func loses(t *testing.T, m *mail.Mail, i int, want api.Errno) {
	t.Helper()
	if err := m.Lose(i); plain.Told(err) != want {
		t.Errorf("Lose(%d): got %v, want %v", i, err, want)
	}
}

func doubles(t *testing.T, m *mail.Mail, i int, want api.Errno) {
	t.Helper()
	if err := m.Twice(i); plain.Told(err) != want {
		t.Errorf("Twice(%d): got %v, want %v", i, err, want)
	}
}

func cut(t *testing.T, m *mail.Mail, from, to int, is bool, want api.Errno) {
	t.Helper()
	if err := m.Cut(from, to, is); plain.Told(err) != want {
		t.Errorf("Cut(%d, %d, %v): got %v, want %v", from, to, is, err, want)
	}
}

func counts(t *testing.T, m *mail.Mail, want int) {
	t.Helper()
	if n := m.Count(); n != want {
		t.Errorf("Count: got %d, want %d", n, want)
	}
}

// holding makes a mail with such letters on their way, and then cuts such ways.
func holding(t *testing.T, all letters, which cuts) *mail.Mail {
	t.Helper()
	m := mail.New()
	for i, l := range all {
		counts(t, m, i)
		sends(t, m, l, api.OK)
	}
	counts(t, m, len(all))
	for from, row := range which {
		for to, is := range row {
			if is {
				cut(t, m, from, to, true, api.OK)
			}
		}
	}
	counts(t, m, len(all))
	return m
}

// ends takes all letters out, and tries each way: that is all that a mail can tell, and is asked last.
func ends(t *testing.T, m *mail.Mail, wantAll letters, wantCuts cuts) {
	t.Helper()
	counts(t, m, len(wantAll))
	for i, l := range wantAll {
		gives(t, m, 0, l, api.OK)
		counts(t, m, len(wantAll)-i-1)
	}
	gives(t, m, 0, api.Letter{}, api.ErrRange)
	for from, row := range wantCuts {
		for to, is := range row {
			if from != to {
				goes(t, m, from, to, !is)
			}
		}
	}
}

// goes checks whether a letter comes into an empty mail, and takes it out.
func goes(t *testing.T, m *mail.Mail, from, to int, want bool) {
	t.Helper()
	l := between(from, to, 77)
	sends(t, m, l, api.OK)
	if !want {
		counts(t, m, 0)
		return
	}
	counts(t, m, 1)
	gives(t, m, 0, l, api.OK)
	counts(t, m, 0)
}

func TestANewOneHasNone(t *testing.T) {
	m := mail.New()
	counts(t, m, 0)
	for _, i := range append([]int{0, 1}, farPlaces...) {
		gives(t, m, i, api.Letter{}, api.ErrRange)
		loses(t, m, i, api.ErrRange)
		doubles(t, m, i, api.ErrRange)
		counts(t, m, 0)
	}
	ends(t, m, nil, cuts{})
}

func TestSentOnesStandBehindAll(t *testing.T) {
	for many := range api.MaxList + 1 {
		ends(t, holding(t, those(many), cuts{}), those(many), cuts{})
	}
}

func TestSentOnesStandBehindThoseThatAreLeft(t *testing.T) {
	m := holding(t, those(4), cuts{})
	gives(t, m, 1, letter(1), api.OK)
	sends(t, m, letter(1), api.OK)
	loses(t, m, 0, api.OK)
	sends(t, m, letter(9), api.OK)
	doubles(t, m, 0, api.OK)
	sends(t, m, letter(0), api.OK)
	ends(t, m, letters{letter(2), letter(3), letter(1), letter(9), letter(2), letter(0)}, cuts{})
}

// TestWhatIsTheSameIsThereTwice has nobody hold letters against each other: one that is sent anew is one more.
func TestWhatIsTheSameIsThereTwice(t *testing.T) {
	l := letter(5)
	ends(t, holding(t, letters{l, l, letter(3), l}, cuts{}), letters{l, l, letter(3), l}, cuts{})
}

func TestSendOfEachWay(t *testing.T) {
	for from := range api.Nodes {
		for to := range api.Nodes {
			m := mail.New()
			if from == to {
				sends(t, m, between(from, to, 3), api.ErrShape)
				ends(t, m, nil, cuts{})
				continue
			}
			sends(t, m, between(from, to, 3), api.OK)
			ends(t, m, letters{between(from, to, 3)}, cuts{})
		}
	}
}

func TestALetterComesAsItWasSent(t *testing.T) {
	var all letters
	for i, e := range rightEntries {
		all = append(all, api.Letter{From: 5, To: i % 5, Entry: e}, api.Letter{From: i % 5, To: 5, Entry: e})
	}
	ends(t, holding(t, all, cuts{}), all, cuts{})
}

func TestSendOfNoSuchWay(t *testing.T) {
	some := cuts{2: {3: true}}
	for _, wrong := range wrongNodes {
		m := holding(t, those(5), some)
		for node := range api.Nodes {
			sends(t, m, between(wrong, node, 3), api.ErrRange)
			sends(t, m, between(node, wrong, 3), api.ErrRange)
		}
		for _, other := range wrongNodes {
			sends(t, m, between(wrong, other, 3), api.ErrRange)
		}
		ends(t, m, those(5), some)
	}
}

func TestSendOfAWrongEntry(t *testing.T) {
	some := cuts{2: {3: true}}
	for _, w := range wrongEntries {
		m := holding(t, those(5), some)
		for from := range api.Nodes {
			sends(t, m, api.Letter{From: from, To: (from + 1) % api.Nodes, Entry: w.e}, w.want)
			counts(t, m, 5)
		}
		ends(t, m, those(5), some)
	}
}

func TestSendOfOneMoreThanMaxList(t *testing.T) {
	some := cuts{2: {3: true}, 3: {2: true}}
	m := holding(t, those(api.MaxList-1), some)
	sends(t, m, between(2, 3, 7), api.OK)
	counts(t, m, api.MaxList-1)
	sends(t, m, letter(api.MaxList-1), api.OK)
	for from := range api.Nodes {
		for to := range api.Nodes {
			if from != to {
				sends(t, m, between(from, to, 7), api.ErrFull)
				counts(t, m, api.MaxList)
			}
		}
	}
	ends(t, m, those(api.MaxList), some)
}

func TestWhereOneIsGoneAnotherOneMayCome(t *testing.T) {
	m := holding(t, those(api.MaxList), cuts{})
	want := those(api.MaxList)
	for n := range 3 * api.MaxList {
		i := n * 7 % api.MaxList
		if n%2 == 0 {
			gives(t, m, i, want[i], api.OK)
		} else {
			loses(t, m, i, api.OK)
		}
		want = without(want, i)
		counts(t, m, api.MaxList-1)
		if n%3 == 0 {
			doubles(t, m, i/2, api.OK)
			want = with(want, want[i/2])
		} else {
			sends(t, m, letter(100+n), api.OK)
			want = with(want, letter(100+n))
		}
		sends(t, m, letter(n), api.ErrFull)
		doubles(t, m, i, api.ErrFull)
		counts(t, m, api.MaxList)
	}
	ends(t, m, want, cuts{})
}

// first is the first of faults that is one.
func first(faults ...api.Errno) api.Errno {
	for _, e := range faults {
		if e != api.OK {
			return e
		}
	}
	return api.OK
}

// TestWhichFaultOfASendIsToldFirst has each fault of a way with each fault of an entry, where there is room, where there is none, and where it would be lost.
func TestWhichFaultOfASendIsToldFirst(t *testing.T) {
	ways := []struct {
		from, to int
		want     api.Errno
	}{
		{1, 4, api.OK}, {3, 2, api.OK}, {2, 2, api.ErrShape}, {0, 0, api.ErrShape}, {5, 5, api.ErrShape},
		{-1, 2, api.ErrRange}, {6, 2, api.ErrRange}, {2, -1, api.ErrRange}, {2, 6, api.ErrRange},
		{-1, -1, api.ErrRange}, {6, 6, api.ErrRange}, {math.MaxInt, math.MaxInt, api.ErrRange},
	}
	some := cuts{3: {2: true}}
	for _, many := range []int{0, 1, api.MaxList - 1, api.MaxList} {
		m := holding(t, those(many), some)
		for _, w := range ways {
			for _, bad := range wrongEntries {
				sends(t, m, api.Letter{From: w.from, To: w.to, Entry: bad.e}, first(w.want, bad.want))
			}
			if many == api.MaxList {
				sends(t, m, between(w.from, w.to, 3), first(w.want, api.ErrFull))
			}
		}
		ends(t, m, those(many), some)
	}
}

func TestGiveAndLoseOfEachOne(t *testing.T) {
	for _, many := range []int{1, 2, 3, 7, api.MaxList - 1, api.MaxList} {
		all := those(many)
		for i := range many {
			m := holding(t, all, cuts{})
			gives(t, m, i, all[i], api.OK)
			ends(t, m, without(all, i), cuts{})
			m = holding(t, all, cuts{})
			loses(t, m, i, api.OK)
			ends(t, m, without(all, i), cuts{})
		}
	}
}

func TestTwiceOfEachOne(t *testing.T) {
	for _, many := range []int{1, 2, 3, 7, api.MaxList - 1} {
		all := those(many)
		for i := range many {
			m := holding(t, all, cuts{})
			doubles(t, m, i, api.OK)
			ends(t, m, with(all, all[i]), cuts{})
		}
	}
}

func TestTwiceTwice(t *testing.T) {
	a, b := letter(0), letter(1)
	m := holding(t, letters{a, b}, cuts{})
	doubles(t, m, 0, api.OK)
	doubles(t, m, 1, api.OK)
	doubles(t, m, 2, api.OK)
	gives(t, m, 0, a, api.OK)
	doubles(t, m, 3, api.OK)
	ends(t, m, letters{b, a, b, a, a}, cuts{})
}

func TestGiveLoseAndTwiceOfNone(t *testing.T) {
	some := cuts{4: {1: true}}
	for many := range api.MaxList + 1 {
		m := holding(t, those(many), some)
		for _, i := range append([]int{many, many + 1}, farPlaces...) {
			gives(t, m, i, api.Letter{}, api.ErrRange)
			loses(t, m, i, api.ErrRange)
			doubles(t, m, i, api.ErrRange)
			counts(t, m, many)
		}
		ends(t, m, those(many), some)
	}
}

// TestThePlaceOfOneThatIsGone has the last places empty out: there is none any more, though there was one.
func TestThePlaceOfOneThatIsGone(t *testing.T) {
	all := those(5)
	m := holding(t, all, cuts{})
	for i := 4; i >= 0; i-- {
		gives(t, m, i, all[i], api.OK)
		gives(t, m, i, api.Letter{}, api.ErrRange)
		loses(t, m, i, api.ErrRange)
		doubles(t, m, i, api.ErrRange)
		counts(t, m, i)
	}
	ends(t, m, nil, cuts{})
}

func TestTwiceWhereMaxListAreThere(t *testing.T) {
	m := holding(t, those(api.MaxList), cuts{})
	for i := range api.MaxList {
		doubles(t, m, i, api.ErrFull)
	}
	for _, i := range farPlaces {
		doubles(t, m, i, api.ErrRange)
	}
	ends(t, m, those(api.MaxList), cuts{})
	m = holding(t, letters{letter(3)}, cuts{})
	for n := range api.MaxList - 1 {
		doubles(t, m, n/2, api.OK)
		counts(t, m, n+2)
	}
	doubles(t, m, 0, api.ErrFull)
	sends(t, m, letter(1), api.ErrFull)
	ends(t, m, slices.Repeat(letters{letter(3)}, api.MaxList), cuts{})
}

// TestCutOfOneWayAlone has each way cut, also twice, and then no more, also twice: all other ways, the one back among them, go on.
func TestCutOfOneWayAlone(t *testing.T) {
	for from := range api.Nodes {
		for to := range api.Nodes {
			if from == to {
				continue
			}
			var one cuts
			one[from][to] = true
			for times := 1; times <= 3; times++ {
				m := mail.New()
				for range times {
					cut(t, m, from, to, true, api.OK)
					counts(t, m, 0)
				}
				ends(t, m, nil, one)
				cut(t, m, from, to, false, api.OK)
				ends(t, m, nil, cuts{})
				cut(t, m, from, to, false, api.OK)
				ends(t, m, nil, cuts{})
				cut(t, m, from, to, true, api.OK)
				ends(t, m, nil, one)
			}
		}
	}
}

func TestCutNoMoreOfAWayThatIsNotCut(t *testing.T) {
	some := cuts{1: {2: true}, 3: {0: true}}
	m := holding(t, those(3), some)
	cut(t, m, 2, 1, false, api.OK)
	cut(t, m, 0, 3, false, api.OK)
	cut(t, m, 5, 4, false, api.OK)
	ends(t, m, those(3), some)
}

func TestCutOfAllWays(t *testing.T) {
	var all cuts
	for from := range api.Nodes {
		for to := range api.Nodes {
			all[from][to] = from != to
		}
	}
	m := holding(t, those(api.MaxList-1), all)
	for n := range 100 {
		sends(t, m, letter(n), api.OK)
		counts(t, m, api.MaxList-1)
	}
	ends(t, m, those(api.MaxList-1), all)
	m = holding(t, nil, all)
	cut(t, m, 0, 5, false, api.OK)
	all[0][5] = false
	ends(t, m, nil, all)
}

func TestThoseOnTheirWayStay(t *testing.T) {
	all := letters{between(1, 2, 3), between(2, 1, 4), between(1, 2, 5), between(1, 3, 6)}
	some := cuts{1: {2: true}}
	m := holding(t, all, some)
	sends(t, m, between(1, 2, 7), api.OK)
	sends(t, m, between(1, 3, 8), api.OK)
	counts(t, m, 5)
	gives(t, m, 2, all[2], api.OK)
	loses(t, m, 2, api.OK)
	ends(t, m, letters{all[0], all[1], between(1, 3, 8)}, some)
}

// TestTwiceOfOneWhoseWayIsCut has one like it come, as it was sent ahead of the cut.
func TestTwiceOfOneWhoseWayIsCut(t *testing.T) {
	l, some := between(1, 2, 3), cuts{1: {2: true}}
	m := holding(t, letters{l, between(2, 1, 4)}, some)
	doubles(t, m, 0, api.OK)
	counts(t, m, 3)
	ends(t, m, letters{l, between(2, 1, 4), l}, some)
}

// TestWhatWasLostDoesNotComeBack has letters go again behind a cut, but not those that were sent while it held.
func TestWhatWasLostDoesNotComeBack(t *testing.T) {
	m := holding(t, letters{between(1, 2, 3)}, cuts{1: {2: true}})
	sends(t, m, between(1, 2, 4), api.OK)
	cut(t, m, 1, 2, false, api.OK)
	counts(t, m, 1)
	sends(t, m, between(1, 2, 5), api.OK)
	counts(t, m, 2)
	ends(t, m, letters{between(1, 2, 3), between(1, 2, 5)}, cuts{})
}

func TestCutIsRefused(t *testing.T) {
	some := cuts{0: {5: true}, 5: {0: true}, 2: {3: true}}
	for _, is := range []bool{true, false} {
		m := holding(t, those(4), some)
		for node := range api.Nodes {
			cut(t, m, node, node, is, api.ErrShape)
			for _, wrong := range wrongNodes {
				cut(t, m, wrong, node, is, api.ErrRange)
				cut(t, m, node, wrong, is, api.ErrRange)
			}
		}
		for _, wrong := range wrongNodes {
			for _, other := range wrongNodes {
				// Also where both are the same: that they are none is told first.
				cut(t, m, wrong, other, is, api.ErrRange)
			}
		}
		ends(t, m, those(4), some)
	}
}

func TestCutWhereMaxListAreThere(t *testing.T) {
	some := cuts{2: {3: true}}
	m := holding(t, those(api.MaxList), cuts{1: {2: true}})
	cut(t, m, 1, 2, false, api.OK)
	cut(t, m, 2, 3, true, api.OK)
	ends(t, m, those(api.MaxList), some)
}

func TestMailsShareNothing(t *testing.T) {
	a, b := mail.New(), mail.New()
	sends(t, a, letter(0), api.OK)
	cut(t, a, 1, 2, true, api.OK)
	counts(t, b, 0)
	sends(t, b, between(1, 2, 3), api.OK)
	sends(t, b, letter(4), api.OK)
	cut(t, b, 1, 2, false, api.OK)
	cut(t, b, 4, 5, true, api.OK)
	doubles(t, a, 0, api.OK)
	loses(t, b, 0, api.OK)
	ends(t, a, letters{letter(0), letter(0)}, cuts{1: {2: true}})
	ends(t, b, letters{letter(4)}, cuts{4: {5: true}})
}

func TestWhatWasSentIsKeptAsItWas(t *testing.T) {
	text := []byte("abc")
	l := between(1, 2, 3)
	l.Entry.Text = string(text)
	sent := l
	m := mail.New()
	sends(t, m, l, api.OK)
	l.From, l.To, l.Entry = 5, 4, api.Entry{Key: 7, Text: "other"}
	text[0] = 'z'
	sends(t, m, l, api.OK)
	doubles(t, m, 0, api.OK)
	loses(t, m, 1, api.OK)
	ends(t, m, letters{sent, sent}, cuts{})
}

// TestWhatWasGivenStaysAsItWas holds letters that came against themselves, behind calls that move what is left; and spoils them, which what is left does not feel.
func TestWhatWasGivenStaysAsItWas(t *testing.T) {
	m := holding(t, those(3), cuts{})
	doubles(t, m, 1, api.OK)
	one, err := m.Give(1)
	if err != nil {
		t.Fatal(err)
	}
	sends(t, m, letter(9), api.OK)
	loses(t, m, 0, api.OK)
	last, err := m.Give(2)
	if err != nil {
		t.Fatal(err)
	}
	doubles(t, m, 0, api.OK)
	sends(t, m, letter(7), api.OK)
	cut(t, m, one.From, one.To, true, api.OK)
	if one != letter(1) || last != letter(9) {
		t.Errorf("given letters are %+v and %+v, were %+v and %+v", one, last, letter(1), letter(9))
	}
	one.To, one.Entry, last.Entry.Text = 5, api.Entry{Key: 7}, "spoilt"
	ends(t, m, letters{letter(2), letter(1), letter(2), letter(7)}, cuts{1: {2: true}})
}

// model is a mail by other means: all letters that ever came, with marks on those that are gone.
type model struct {
	all  letters
	gone []bool
	cut  cuts
}

// count tells how many have no mark.
func (o *model) count() int {
	n := 0
	for _, is := range o.gone {
		if !is {
			n++
		}
	}
	return n
}

// find tells where the i-th that has no mark lies.
func (o *model) find(i int) (int, bool) {
	for at, is := range o.gone {
		if is {
			continue
		}
		if i == 0 {
			return at, true
		}
		i--
	}
	return 0, false
}

func (o *model) add(l api.Letter) { o.all, o.gone = append(o.all, l), append(o.gone, false) }

func wrongWay(from, to int) api.Errno {
	switch {
	case min(from, to) < 0, max(from, to) > 5:
		return api.ErrRange
	case from == to:
		return api.ErrShape
	}
	return api.OK
}

func (o *model) send(l api.Letter) api.Errno {
	if e := wrongWay(l.From, l.To); e != api.OK {
		return e
	}
	if e := plain.Told(entry.Check(l.Entry)); e != api.OK {
		return e
	}
	if o.count() == 40 {
		return api.ErrFull
	}
	if !o.cut[l.From][l.To] {
		o.add(l)
	}
	return api.OK
}

func (o *model) give(i int) (api.Letter, api.Errno) {
	at, is := o.find(i)
	if !is {
		return api.Letter{}, api.ErrRange
	}
	o.gone[at] = true
	return o.all[at], api.OK
}

func (o *model) twice(i int) api.Errno {
	at, is := o.find(i)
	if !is {
		return api.ErrRange
	}
	if o.count() == 40 {
		return api.ErrFull
	}
	o.add(o.all[at])
	return api.OK
}

func (o *model) setCut(from, to int, is bool) api.Errno {
	e := wrongWay(from, to)
	if e == api.OK {
		o.cut[from][to] = is
	}
	return e
}

// left are the letters that have no mark.
func (o *model) left() letters {
	var l letters
	for at, is := range o.gone {
		if !is {
			l = append(l, o.all[at])
		}
	}
	return l
}

// step is a call: which one, and its numbers.
type step struct{ what, a, b, n int }

// both does a call on a mail and on a model of it, and holds the answers against each other.
func both(t *testing.T, m *mail.Mail, o *model, s step) {
	t.Helper()
	switch s.what {
	case 0:
		l := between(s.a, s.b, s.n)
		sends(t, m, l, o.send(l))
	case 1:
		l, e := o.give(s.a)
		gives(t, m, s.a, l, e)
	case 2:
		_, e := o.give(s.a)
		loses(t, m, s.a, e)
	case 3:
		doubles(t, m, s.a, o.twice(s.a))
	default:
		cut(t, m, s.a, s.b, s.what == 4, o.setCut(s.a, s.b, s.what == 4))
	}
	counts(t, m, o.count())
}

// TestEachFewCalls has each four of some calls, one behind another, where none, one or two are on their way.
func TestEachFewCalls(t *testing.T) {
	steps := []step{
		{0, 1, 2, 0}, {0, 2, 1, 0}, {1, 0, 0, 0}, {1, 1, 0, 0}, {2, 0, 0, 0}, {2, 2, 0, 0},
		{3, 0, 0, 0}, {3, 1, 0, 0}, {4, 1, 2, 0}, {5, 1, 2, 0}, {4, 2, 1, 0}, {0, 2, 2, 0},
	}
	for code := range 3 * 12 * 12 * 12 * 12 {
		m, o := mail.New(), &model{}
		for n := range code % 3 {
			both(t, m, o, step{0, 1, 2, 10 + n})
		}
		code /= 3
		for n := range 4 {
			s := steps[code%12]
			s.n = n
			both(t, m, o, s)
			code /= 12
		}
		ends(t, m, o.left(), o.cut)
		if t.Failed() {
			return
		}
	}
}

// TestManyCalls plays calls by chance, always the same ones, some of them wrong; how much is sent goes up and down, such that at times there are MaxList, at times none.
func TestManyCalls(t *testing.T) {
	from := rand.New(rand.NewPCG(14, 41))
	full, none := 0, 0
	for range 60 {
		m, o := mail.New(), &model{}
		for n := range 600 {
			s := step{from.IntN(6), from.IntN(8) - 1, from.IntN(8) - 1, n}
			if often := from.IntN(3); often == 0 || n/100%2 == 0 && often == 1 {
				s.what = 0
			}
			if s.what > 0 && s.what < 4 {
				s.a = from.IntN(o.count()+3) - 1
			}
			both(t, m, o, s)
			if o.count() == api.MaxList {
				full++
			}
			if o.count() == 0 {
				none++
			}
		}
		ends(t, m, o.left(), o.cut)
		if t.Failed() {
			return
		}
	}
	if full < 100 || none < 100 {
		t.Errorf("MaxList were there %d times, none %d times: too few to tell anything", full, none)
	}
}

// TestWhatAStoreToldGoesByMail has entries of a store come at the other end, in another order, some of them doubled: what is known by all of them is what the store told last.
func TestWhatAStoreToldGoesByMail(t *testing.T) {
	s, m := store.New(), mail.New()
	for n := range 12 {
		if _, err := s.Put(3, fmt.Sprint("text ", n)); err != nil {
			t.Fatal(err)
		}
		e, err := s.Read(3)
		if err != nil {
			t.Fatal(err)
		}
		sends(t, m, api.Letter{From: 0, To: 1, Entry: e}, api.OK)
		doubles(t, m, n, api.OK)
	}
	loses(t, m, 0, api.OK)
	known := api.Entry{Key: 3, Gone: true}
	for range m.Count() {
		l, err := m.Give(m.Count() * 5 / 7)
		if err != nil {
			t.Fatal(err)
		}
		known, err = entry.Join(known, l.Entry)
		if err != nil {
			t.Fatal(err)
		}
	}
	if last, err := s.Read(3); err != nil || known != last {
		t.Errorf("known at the other end: %+v, at the store: %+v, %v", known, last, err)
	}
}

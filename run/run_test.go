package run_test

import (
	"fmt"
	"math/rand/v2"
	"regexp"
	"strconv"
	"strings"
	"sync"
	"testing"

	"beaconmere/api"
	"beaconmere/mesh"
	"beaconmere/ring"
	"beaconmere/run"
)

const tooLong = "too long\n"

// answers checks what a text is answered.
func answers(t *testing.T, text, want string) {
	t.Helper()
	if got := run.Run(text); got != want {
		t.Errorf("Run(%s): got %s, want %s", short(text), short(got), short(want))
	}
}

// short is a text as it is told where a test fails.
func short(text string) string {
	if len(text) > 600 {
		return fmt.Sprintf("%q .. %q (%d bytes)", text[:300], text[len(text)-300:], len(text))
	}
	return strconv.Quote(text)
}

// says checks what is answered to each of some lines: they stand by turns, a line and its answer.
func says(t *testing.T, turns ...string) {
	t.Helper()
	var text, want strings.Builder
	for i := 0; i < len(turns); i += 2 {
		text.WriteString(turns[i] + "\n")
		want.WriteString(turns[i+1] + "\n")
	}
	answers(t, text.String(), want.String())
}

// behind gives the answer to a line behind others.
func behind(t *testing.T, line string, others ...string) string {
	t.Helper()
	text := strings.Join(append(append([]string(nil), others...), line), "\n")
	l := strings.Split(run.Run(text), "\n")
	if len(l) != len(others)+2 || l[len(l)-1] != "" {
		t.Fatalf("Run(%q): got %q, want a line each", text, l)
	}
	return l[len(others)]
}

// each gives the answers to lines that are of one text as long as it is not too long, and else of several. Nothing of a line is to hang on those ahead of it.
func each(t *testing.T, lines []string) []string {
	t.Helper()
	var out []string
	for len(lines) > 0 {
		n, size := 0, 0
		for n < len(lines) && size+len(lines[n])+1 <= api.MaxRun {
			size += len(lines[n]) + 1
			n++
		}
		got := strings.Split(run.Run(strings.Join(lines[:n], "\n")+"\n"), "\n")
		if n == 0 || len(got) != n+1 || got[n] != "" {
			t.Fatalf("Run(%q): got %q, want %d lines", lines[:n], got, n)
		}
		out = append(out, got[:n]...)
		lines = lines[n:]
	}
	return out
}

// allSay checks that each line has that answer.
func allSay(t *testing.T, lines []string, want string) {
	t.Helper()
	for i, got := range each(t, lines) {
		if got != want {
			t.Errorf("%q: got %q, want %q", lines[i], got, want)
		}
	}
}

// right are lines that are read, one for each of the chapter's table, and how many numbers each has.
var right = []struct {
	line    string
	numbers int
}{
	{"put 0 1 tea", 2}, {"delete 0 1", 2}, {"get 0 1 0", 3}, {"swap 0 1", 2}, {"seq", 0}, {"cache 0", 1}, {"owner 0", 1},
}

func TestLineBreaks(t *testing.T) {
	answers(t, "", "")
	answers(t, "\n", "bad\n")
	answers(t, "\n\n", "bad\nbad\n")
	answers(t, "\n\n\n", "bad\nbad\nbad\n")
	answers(t, "seq", "0\n")
	answers(t, "seq\n", "0\n")
	answers(t, "seq\n\n", "0\nbad\n")
	answers(t, "\nseq", "bad\n0\n")
	answers(t, "\nseq\n", "bad\n0\n")
	answers(t, "seq\nseq", "0\n0\n")
	answers(t, "seq\n\nseq", "0\nbad\n0\n")
	answers(t, "seq\n\n\nseq\n", "0\nbad\nbad\n0\n")
	answers(t, "put 0 1 tea\n\nseq", "1\nbad\n1\n")
	answers(t, "x", "bad\n")
	answers(t, " ", "bad\n")
	answers(t, " \n ", "bad\nbad\n")
	// Only byte 10 cuts.
	for _, cut := range []string{"\r", "\r\n", "\x00", "\v", "\f", "\u0085", "\u2028", "\u2029", "\x1e", ";", "\\n"} {
		want := "bad\n"
		if cut == "\r\n" {
			want = "bad\n0\n"
		}
		answers(t, "seq"+cut+"seq", want)
	}
}

func TestTooLong(t *testing.T) {
	full := strings.Repeat("seq\n", api.MaxRun/4)
	answers(t, full, strings.Repeat("0\n", api.MaxRun/4))
	answers(t, full[:len(full)-1], strings.Repeat("0\n", api.MaxRun/4))
	answers(t, full+"\n", tooLong)
	answers(t, "\n"+full, tooLong)
	answers(t, full+"x", tooLong)
	answers(t, full+full, tooLong)
	for _, one := range []string{"\n", " ", "x", "0", "\x00", "\xff"} {
		few := "bad\n"
		if one == "\n" {
			few = strings.Repeat("bad\n", api.MaxRun)
		}
		answers(t, strings.Repeat(one, api.MaxRun), few)
		answers(t, strings.Repeat(one, api.MaxRun+1), tooLong)
		answers(t, strings.Repeat(one, 1<<20), tooLong)
	}
	// Bytes count, not runes.
	answers(t, strings.Repeat("é", api.MaxRun/2), "bad\n")
	answers(t, strings.Repeat("é", api.MaxRun/2)+"e", tooLong)
	answers(t, strings.Repeat("€", api.MaxRun/3+1), tooLong)
}

// TestOneLineFull has one line of all bytes that may be.
func TestOneLineFull(t *testing.T) {
	put := "put 0 1 "
	answers(t, put+strings.Repeat("a", api.MaxRun-len(put)), "ErrFull\n")
	answers(t, put+strings.Repeat("a", api.MaxRun-len(put)-1)+"\n", "ErrFull\n")
	answers(t, put+strings.Repeat("a", api.MaxRun-len(put)+1), tooLong)
	answers(t, "get 0 1 "+strings.Repeat("0", api.MaxRun-8), "bad\n")
	answers(t, "seq"+strings.Repeat(" ", api.MaxRun-3), "bad\n")
}

// TestOftenDone has as much be done as a text has room for.
func TestOftenDone(t *testing.T) {
	var want strings.Builder
	for i := range 300 {
		want.WriteString(strconv.Itoa(i+1) + "\n")
	}
	answers(t, strings.Repeat("put 0 0 a\n", 300), want.String())
	want.Reset()
	for i := range 142 {
		want.WriteString(strconv.Itoa(2*i+1) + "\n" + strconv.Itoa(2*i+2) + "\n")
	}
	answers(t, strings.Repeat("put 2 7 a\ndelete 1 7\n", 142), want.String())
}

func TestRight(t *testing.T) {
	for i, want := range []string{"1", "ErrNone", "0-0 gone", "ok", "0", "-", "0"} {
		says(t, right[i].line, want)
		answers(t, right[i].line, want+"\n")
	}
	for i, want := range []string{"4", "4", "1-1 coffee cached", "ok", "3", "1 5", "0"} {
		if got := behind(t, right[i].line, "put 0 1 coffee", "put 0 5 b", "put 1 2 c"); got != want {
			t.Errorf("%q: got %q, want %q", right[i].line, got, want)
		}
	}
}

// TestWords has each line with a word too few or too many, and with other blanks than one between.
func TestWords(t *testing.T) {
	var bad []string
	for _, r := range right {
		words := strings.Split(r.line, " ")
		bad = append(bad, " "+r.line, r.line+" ", "  "+r.line, r.line+"  ", " "+r.line+" ", "\t"+r.line, r.line+" x", r.line+" 0", r.line+" 0 0", r.line+" 0 0 0", r.line+" "+r.line)
		for i := range words {
			bad = append(bad, strings.Join(words[:i], " "))
			bad = append(bad, joined(words[:i], words[i+1:]))
			bad = append(bad, joined(words[:i], []string{""}, words[i+1:]))
			bad = append(bad, joined(words[:i], []string{""}, words[i:]))
			bad = append(bad, joined(words[:i], []string{"0"}, words[i:]))
			bad = append(bad, joined(words[:i], []string{words[i]}, words[i:]))
		}
		for _, between := range []string{"", "  ", "\t", "\t ", "\v", "\r", "\x00", "\u00a0", "\u2003", ",", ", ", "/"} {
			for i := 1; i < len(words); i++ {
				bad = append(bad, strings.Join(words[:i], " ")+between+strings.Join(words[i:], " "))
			}
			if len(words) > 1 {
				bad = append(bad, strings.Join(words, between))
			}
		}
	}
	allSay(t, bad, "bad")
	// A byte that is no blank belongs to a text that is wanted there.
	says(t, "put 0 1 \ttea", "1", "get 0 1 1", "1-1 \ttea cached", "put 0 1\t tea", "bad", "put 0 \t1 tea", "bad")
}

// joined has some words with one blank between.
func joined(lists ...[]string) string {
	var all []string
	for _, l := range lists {
		all = append(all, l...)
	}
	return strings.Join(all, " ")
}

func TestHeads(t *testing.T) {
	var bad []string
	behinds := []string{"", " 0", " 0 1", " 0 1 0", " 0 1 tea", " tea"}
	for _, r := range right {
		head, _, _ := strings.Cut(r.line, " ")
		heads := []string{strings.ToUpper(head), strings.ToUpper(head[:1]) + head[1:], head[:len(head)-1] + strings.ToUpper(head[len(head)-1:])}
		heads = append(heads, head+"s", head+head, head+"\x00", head+"\r", "\x00"+head, "\ufeff"+head, head[1:], head+"0", head+":", `"`+head+`"`, strings.Replace(head, "e", "é", 1)+"\xff")
		for i := range head {
			heads = append(heads, head[:i])
		}
		for _, h := range heads {
			for _, b := range behinds {
				bad = append(bad, h+b)
			}
		}
	}
	for _, h := range []string{"fly", "new", "at", "read", "sync", "owners", "points", "store", "bad", "ok", "gone", "0", "-", "#", "//", "?", "too", "\x00", "\xff"} {
		for _, b := range behinds {
			bad = append(bad, h+b)
		}
	}
	allSay(t, bad, "bad")
}

// places are lines with a number at each place where one may be; all else in them is right.
var places = []struct{ ahead, behind string }{
	{"put ", " 1 tea"}, {"put 0 ", " tea"}, {"delete ", " 1"}, {"delete 0 ", ""},
	{"get ", " 1 0"}, {"get 0 ", " 0"}, {"get 0 1 ", ""},
	{"swap ", " 1"}, {"swap 1 ", ""}, {"cache ", ""}, {"owner ", ""},
}

var noNumbers = []string{
	"", "00", "01", "000", "0000", "00000", "001", "0001", "00001", "010", "0100", "0999", "10000", "99999", "12345", "100000", "18446744073709551616",
	"-0", "+0", "-1", "+1", "1-", "1+", "--1", "0x1", "0b1", "0o1", "1_0", "1e0", "1.", ".1", "1.0", "1,0", "a", "x1", "1x", "1a1", "/", ":", "1/", "1:", "/1", ":1",
	"\t1", "1\t", "1\r", "\x001", "1\x00", "\x00", "\xff", "1\xff", "\xb1", "\x011", "'1'", "\"1\"", "one", "nil",
	"١", "1١", "۳", "３", "1３", "²", "½", "Ⅳ", "1\u200b", "\ufeff1", "\u0661\u0662", "é",
}

var numbers = []string{"0", "1", "2", "3", "5", "7", "8", "9", "10", "11", "19", "42", "90", "99", "100", "101", "256", "900", "999", "1000", "1001", "1024", "9000", "9999"}

func TestNumbers(t *testing.T) {
	for _, p := range places {
		var bad []string
		for _, n := range noNumbers {
			bad = append(bad, p.ahead+n+p.behind)
		}
		allSay(t, bad, "bad")
		for _, n := range numbers {
			if got := behind(t, p.ahead+n+p.behind); got == "bad" {
				t.Errorf("%q: got bad", p.ahead+n+p.behind)
			}
		}
	}
}

// TestEachNumber has a key's owner be asked for by each text of up to two bytes, and by all digits, up to five.
func TestEachNumber(t *testing.T) {
	isNumber := map[string]bool{}
	for n := range 10_000 {
		isNumber[fmt.Sprint(n)] = true
	}
	var tried []string
	for a := range 256 {
		if a == '\n' {
			continue
		}
		tried = append(tried, string([]byte{byte(a)}))
		for b := range 256 {
			if b != '\n' {
				tried = append(tried, string([]byte{byte(a), byte(b)}))
			}
		}
	}
	for digits := 3; digits <= 5; digits++ {
		n := 1
		for range digits {
			n *= 10
		}
		for i := range n {
			tried = append(tried, fmt.Sprintf("%0*d", digits, i))
		}
	}
	var lines []string
	for _, n := range tried {
		lines = append(lines, "owner "+n)
	}
	owners := []string{"0", "1", "2", "0", "0", "1", "1", "0"}
	for i, got := range each(t, lines) {
		want := "bad"
		if isNumber[tried[i]] {
			want = "ErrRange"
			if len(tried[i]) == 1 && tried[i] < "8" {
				want = owners[tried[i][0]-'0']
			}
		}
		if got != want {
			t.Fatalf("%q: got %q, want %q", lines[i], got, want)
		}
	}
}

// TestNumbersAreTold has numbers of one to four digits each be that very number.
func TestNumbersAreTold(t *testing.T) {
	var puts strings.Builder
	for range 250 {
		puts.WriteString("put 0 0 a\n")
	}
	for _, n := range []int{0, 1, 9, 10, 42, 99, 100, 109, 190, 248, 249, 250} {
		answers(t, puts.String()+fmt.Sprintf("get 0 0 %d", n), told(250)+"250-250 a cached\n")
	}
	for _, n := range []int{251, 252, 259, 260, 300, 999, 1000, 2500, 9999} {
		answers(t, puts.String()+fmt.Sprintf("get 0 0 %d", n), told(250)+"ErrRange\n")
	}
}

// told are the numbers of so many things that were done.
func told(n int) string {
	var b strings.Builder
	for i := range n {
		b.WriteString(fmt.Sprintln(i + 1))
	}
	return b.String()
}

func TestTexts(t *testing.T) {
	for size := 1; size <= api.MaxText; size++ {
		text := "abcdefghijkl"[:size]
		says(t, "put 1 3 "+text, "1", "get 1 3 1", "1-1 "+text+" cached", "get 2 3 0", "1-1 "+text)
	}
	for _, text := range []string{"abcdefghijklm", "ééééééé", strings.Repeat("\xff", 13), strings.Repeat("a", 256), strings.Repeat("0", 2000)} {
		says(t, "put 1 3 "+text, "ErrFull", "seq", "0", "cache 1", "-")
	}
	says(t, "put 1 3 éééééé", "1", "get 1 3 1", "1-1 éééééé cached")
	for b := range 256 {
		switch text := string([]byte{byte(b)}); text {
		case " ":
			says(t, "put 1 3  ", "bad", "put 1 3 a ", "bad", "put 1 3  a", "bad", "put 1 3 a b", "bad", "seq", "0")
		case "\n":
			answers(t, "put 1 3 \nput 1 3 a\nb\nget 1 3 1", "bad\n1\nbad\n1-1 a cached\n")
		default:
			says(t, "put 1 3 "+text, "1", "put 1 4 a"+text+"b", "2", "get 1 3 0", "1-1 "+text+" cached", "get 0 4 2", "2-2 a"+text+"b")
		}
	}
	// A text is as it stands, whatever it looks like.
	for _, text := range []string{"gone", "cached", "0", "00", "-1", "put", "ErrNone", "bad", "a\tb", "a\r", "\r", "\"", "\\n", "%d", "A"} {
		says(t, "put 1 3 "+text, "1", "get 1 3 1", "1-1 "+text+" cached", "delete 1 3", "2", "get 1 3 2", "2-2 gone cached")
	}
}

func TestErrors(t *testing.T) {
	for _, n := range []string{"3", "4", "5", "6", "7", "8", "10", "99", "256", "1000", "9999"} {
		says(t,
			"put "+n+" 1 tea", "ErrRange", "put "+n+" 8 abcdefghijklm", "ErrRange", "put "+n+" 1 abcdefghijklm", "ErrRange",
			"delete "+n+" 1", "ErrRange", "delete "+n+" 8", "ErrRange", "get "+n+" 1 0", "ErrRange", "get "+n+" 8 1", "ErrRange",
			"swap "+n+" 1", "ErrRange", "swap 1 "+n, "ErrRange", "swap "+n+" "+n, "ErrRange", "cache "+n, "ErrRange", "seq", "0")
	}
	for _, n := range []string{"8", "9", "10", "15", "16", "99", "256", "1000", "9999"} {
		says(t,
			"put 0 "+n+" tea", "ErrRange", "put 0 "+n+" abcdefghijklm", "ErrRange", "delete 0 "+n, "ErrRange",
			"get 0 "+n+" 0", "ErrRange", "owner "+n, "ErrRange", "seq", "0")
	}
	for _, n := range []string{"0", "1", "2"} {
		says(t,
			"swap "+n+" "+n, "ErrShape", "put "+n+" 7 abcdefghijklm", "ErrFull", "delete "+n+" 7", "ErrNone",
			"put "+n+" 7 a", "1", "delete "+n+" 7", "2", "delete "+n+" 7", "ErrNone", "seq", "2")
	}
	says(t, "put 0 0 a", "1", "delete 1 0", "2", "delete 2 0", "ErrNone", "put 2 0 b", "3", "delete 0 0", "4")
}

func TestGet(t *testing.T) {
	says(t,
		"get 0 5 0", "0-0 gone", // of the store: the cache has nothing of it
		"get 0 5 0", "0-0 gone cached",
		"get 0 5 1", "ErrRange", // later than the Seq
		"put 1 3 tea", "1",
		"get 0 5 0", "0-0 gone cached",
		"get 0 5 1", "0-1 gone", // later than what the cache has
		"get 0 5 0", "0-1 gone cached",
		"get 0 5 1", "0-1 gone cached",
		"get 0 5 2", "ErrRange",
		"put 1 3 milk", "2",
		"get 1 3 0", "2-2 milk cached",
		"get 1 3 2", "2-2 milk cached",
		"get 1 3 3", "ErrRange",
		"get 2 3 0", "2-2 milk",
		"delete 0 3", "3",
		"get 0 3 3", "3-3 gone cached",
		"get 2 3 2", "2-2 milk cached", // it did not hear of it
		"get 2 3 3", "3-3 gone",
		"get 1 3 1", "2-2 milk cached",
		"put 0 0 x", "4",
		"get 2 3 4", "3-4 gone",
		"get 1 3 4", "3-4 gone",
		"get 0 3 3", "3-3 gone cached",
		"get 0 3 5", "ErrRange",
		"get 0 3 9999", "ErrRange")
}

func TestSwap(t *testing.T) {
	says(t,
		"put 0 3 tea", "1", "put 1 6 milk", "2", "swap 0 1", "ok",
		"cache 0", "3 6", "cache 1", "3 6", "cache 2", "-",
		"get 0 6 2", "2-2 milk cached", "get 1 3 1", "1-1 tea cached",
		"delete 2 3", "3", "swap 2 0", "ok", "cache 2", "3 6",
		"get 0 3 0", "3-3 gone cached", "get 1 3 0", "1-1 tea cached",
		"swap 1 0", "ok", "get 1 3 0", "3-3 gone cached",
		"swap 1 1", "ErrShape", "swap 1 3", "ErrRange", "seq", "3")
	// Of the same version each has its own.
	says(t, "put 0 3 tea", "1", "put 2 0 a", "2", "get 1 3 2", "1-2 tea", "swap 0 1", "ok", "get 0 3 1", "1-1 tea cached", "get 1 3 2", "1-2 tea cached")
}

func TestCache(t *testing.T) {
	says(t,
		"cache 0", "-", "cache 1", "-", "cache 2", "-", "cache 3", "ErrRange",
		"put 1 7 a", "1", "cache 1", "7",
		"put 1 0 b", "2", "cache 1", "0 7",
		"get 1 4 0", "0-2 gone", "cache 1", "0 4 7", // one that is gone is there too
		"delete 1 0", "3", "cache 1", "0 4 7",
		"put 2 3 b", "4", "cache 0", "-", "cache 2", "3",
		"put 1 6 a", "5", "put 1 5 a", "6", "put 1 3 a", "7", "put 1 2 a", "8", "put 1 1 a", "9",
		"cache 1", "0 1 2 3 4 5 6 7", "cache 0", "-", "swap 0 1", "ok", "cache 0", "0 1 2 3 4 5 6 7", "cache 2", "3")
}

func TestOwner(t *testing.T) {
	says(t, "owner 0", "0", "owner 1", "1", "owner 2", "2", "owner 3", "0", "owner 4", "0", "owner 5", "1", "owner 6", "1", "owner 7", "0", "owner 8", "ErrRange")
	l, err := ring.Points([]int{0, 1, 2}, 4)
	if err != nil {
		t.Fatal(err)
	}
	for key := range api.Keys {
		node, err := ring.Owner(l, key)
		if err != nil {
			t.Fatal(err)
		}
		// Nothing that is done has a key be another one's.
		says(t, fmt.Sprint("put 1 ", key, " a"), "1", fmt.Sprint("owner ", key), fmt.Sprint(node), fmt.Sprint("delete 2 ", key), "2", "swap 0 1", "ok", fmt.Sprint("owner ", key), fmt.Sprint(node))
	}
}

// rule plays texts by itself: all that was done to the store, in its order, and each node's cache.
type rule struct {
	done   []thing
	caches [3]map[int]known
}

type thing struct {
	key  int
	gone bool
	text string
}

// known is the version of a key, and up to where it is known. What its text is the things that were done tell.
type known struct{ version, asOf int }

var forms = map[string]*regexp.Regexp{}

func init() {
	n := " (0|[1-9][0-9]{0,3})"
	for head, form := range map[string]string{"put": n + n + `((?s: [^ ]+))`, "delete": n + n, "get": n + n + n, "swap": n + n, "seq": "", "cache": n, "owner": n} {
		forms[head] = regexp.MustCompile(`\A` + head + form + `\z`)
	}
}

// plays gives the answers to a text.
func plays(text string) string {
	if len(text) > 3000 {
		return "too long\n"
	}
	r := &rule{}
	for node := range r.caches {
		r.caches[node] = map[int]known{}
	}
	out := ""
	for _, line := range regexp.MustCompile(`(?s)[^\n]*\n|[^\n]+\z`).FindAllString(text, -1) {
		out += r.answers(strings.TrimSuffix(line, "\n")) + "\n"
	}
	return out
}

func (r *rule) answers(line string) string {
	for head, form := range forms {
		found := form.FindStringSubmatch(line)
		if found == nil {
			continue
		}
		text := ""
		if head == "put" {
			text = found[3][1:]
			found = found[:3]
		}
		var n []int
		for _, s := range found[1:] {
			i, _ := strconv.Atoi(s)
			n = append(n, i)
		}
		return r.does(head, n, text)
	}
	return "bad"
}

func (r *rule) does(head string, n []int, text string) string {
	switch head {
	case "seq":
		return fmt.Sprint(len(r.done))
	case "owner":
		if n[0] > 7 {
			return "ErrRange"
		}
		return "01200110"[n[0] : n[0]+1]
	case "swap":
		return r.swaps(n[0], n[1])
	}
	if n[0] > 2 || len(n) > 1 && n[1] > 7 {
		return "ErrRange"
	}
	switch head {
	case "put":
		if len(text) > 12 {
			return "ErrFull"
		}
		return r.changes(n[0], thing{key: n[1], text: text})
	case "delete":
		if r.isGone(r.newest(n[1]).version) {
			return "ErrNone"
		}
		return r.changes(n[0], thing{key: n[1], gone: true})
	case "get":
		return r.gets(n[0], n[1], n[2])
	}
	return r.keys(n[0])
}

func (r *rule) changes(node int, what thing) string {
	r.done = append(r.done, what)
	r.caches[node][what.key] = r.newest(what.key)
	return fmt.Sprint(len(r.done))
}

func (r *rule) newest(key int) known {
	k := known{asOf: len(r.done)}
	for i, what := range r.done {
		if what.key == key {
			k.version = i + 1
		}
	}
	return k
}

func (r *rule) isGone(version int) bool { return version == 0 || r.done[version-1].gone }

func (r *rule) gets(node, key, floor int) string {
	if floor > len(r.done) {
		return "ErrRange"
	}
	k, is := r.caches[node][key]
	cached := " cached"
	if !is || k.asOf < floor {
		k, cached = r.newest(key), ""
		r.caches[node][key] = k
	}
	text := "gone"
	if !r.isGone(k.version) {
		text = r.done[k.version-1].text
	}
	return fmt.Sprintf("%d-%d %s%s", k.version, k.asOf, text, cached)
}

func (r *rule) swaps(a, b int) string {
	if a > 2 || b > 2 {
		return "ErrRange"
	}
	if a == b {
		return "ErrShape"
	}
	for key := range 8 {
		x, isX := r.caches[a][key]
		y, isY := r.caches[b][key]
		switch {
		case isX && (!isY || x.version > y.version):
			r.caches[b][key] = x
		case isY && (!isX || y.version > x.version):
			r.caches[a][key] = y
		}
	}
	return "ok"
}

func (r *rule) keys(node int) string {
	out := ""
	for key := range 8 {
		if _, is := r.caches[node][key]; is {
			out += fmt.Sprint(" ", key)
		}
	}
	if out == "" {
		return "-"
	}
	return out[1:]
}

// byChance gives a line that is mostly read.
func byChance(g *rand.Rand) string {
	node := func() string { return fmt.Sprint(g.IntN(3 + g.IntN(2)*g.IntN(2))) }
	key := func() string { return fmt.Sprint(g.IntN(8 + g.IntN(2)*g.IntN(2))) }
	floor := func() string { return fmt.Sprint(g.IntN(1 + g.IntN(60))) }
	text := []string{"a", "b", "tea", "gone", "0", "\x00\xff", "abcdefghijkl", "abcdefghijklm"}[g.IntN(8)]
	var line string
	switch g.IntN(10) {
	case 0, 1:
		line = "put " + node() + " " + key() + " " + text
	case 2:
		line = "delete " + node() + " " + key()
	case 3, 4, 5:
		line = "get " + node() + " " + key() + " " + floor()
	case 6:
		line = "swap " + node() + " " + node()
	case 7:
		line = "seq"
	case 8:
		line = "cache " + node()
	case 9:
		line = "owner " + key()
	}
	if g.IntN(12) == 0 {
		return spoiled(g, line)
	}
	return line
}

// spoiled gives a line with something in it done otherwise: maybe it is right none the less.
func spoiled(g *rand.Rand, line string) string {
	at := g.IntN(len(line) + 1)
	end := min(at+g.IntN(3), len(line))
	put := []string{"", " ", "  ", "0", "1", "9", "x", "-", "\t", "\n", "\x00", "é", " 0", " x", "000", "A"}[g.IntN(16)]
	return line[:at] + put + line[end:]
}

// session gives a text of just so many bytes.
func session(g *rand.Rand, size int) string {
	var b strings.Builder
	for b.Len() < size {
		b.WriteString(byChance(g) + "\n")
	}
	return b.String()[:size]
}

func TestSessionsByChance(t *testing.T) {
	g := rand.New(rand.NewPCG(20, 1))
	for i := range 3000 {
		size := g.IntN(api.MaxRun + 1)
		if i%10 == 0 {
			size = api.MaxRun - g.IntN(2)
		}
		text := session(g, size)
		if got, want := run.Run(text), plays(text); got != want {
			t.Fatalf("Run(%q): got %q, want %q", text, got, want)
		}
	}
	for range 20 {
		answers(t, session(g, api.MaxRun+1+g.IntN(3)), tooLong)
	}
}

// TestFewLines has each row of three lines out of some.
func TestFewLines(t *testing.T) {
	some := []string{"put 0 1 a", "put 1 1 b", "delete 1 1", "delete 0 2", "get 0 1 0", "get 1 1 1", "get 2 2 2", "swap 0 1", "swap 1 2", "swap 2 2", "seq", "cache 0", "cache 2", "put 0 1", ""}
	for _, a := range some {
		for _, b := range some {
			for _, c := range some {
				text := a + "\n" + b + "\n" + c + "\nget 0 1 0\nget 1 1 0\ncache 2\n"
				if got, want := run.Run(text), plays(text); got != want {
					t.Fatalf("Run(%q): got %q, want %q", text, got, want)
				}
			}
		}
	}
}

// TestBytesByChance has texts of bytes that are mostly none of the table.
func TestBytesByChance(t *testing.T) {
	g := rand.New(rand.NewPCG(20, 2))
	for range 2000 {
		b := make([]byte, g.IntN(200))
		for i := range b {
			b[i] = "putdelgswaqchonr 0123456789\n\n  \x00\xff\r\t-+"[g.IntN(37)]
			if g.IntN(20) == 0 {
				b[i] = byte(g.IntN(256))
			}
		}
		answers(t, string(b), plays(string(b)))
	}
}

// TestAsTheMesh holds what is told against a Mesh that the test asks itself.
func TestAsTheMesh(t *testing.T) {
	g := rand.New(rand.NewPCG(20, 3))
	for range 200 {
		m, err := mesh.New(3)
		if err != nil {
			t.Fatal(err)
		}
		var text, want strings.Builder
		for text.Len() < api.MaxRun-40 {
			node, key, floor := g.IntN(3), g.IntN(8), g.IntN(m.Seq()+2)
			switch g.IntN(3) {
			case 0:
				n, err := m.Put(node, key, fmt.Sprint("t", floor))
				fmt.Fprintf(&text, "put %d %d t%d\n", node, key, floor)
				fmt.Fprintln(&want, n)
				if err != nil {
					t.Fatal(err)
				}
			case 1:
				err := m.Swap(node, key%3)
				fmt.Fprintf(&text, "swap %d %d\n", node, key%3)
				fmt.Fprintln(&want, orError("ok", err))
			case 2:
				e, cached, err := m.Get(node, key, floor)
				fmt.Fprintf(&text, "get %d %d %d\n", node, key, floor)
				fmt.Fprintln(&want, orError(entryOf(e, cached), err))
			}
		}
		answers(t, text.String(), want.String())
	}
}

func orError(text string, err error) string {
	if err != nil {
		return err.Error()
	}
	return text
}

func entryOf(e api.Entry, cached bool) string {
	text := fmt.Sprint(e.Version, "-", e.AsOf, " ", e.Text)
	if e.Gone {
		text += "gone"
	}
	if cached {
		text += " cached"
	}
	return text
}

// TestRefusedChangesNothing lays lines that are refused ahead of each line of a session: the answers to all others stay.
func TestRefusedChangesNothing(t *testing.T) {
	refused := []string{
		"", " ", "put", "put 0 1", "put 0 1 ", "put 0 1 a b", "put 0 01 a", " put 0 1 a", "put 0 1 a ", "PUT 0 1 a", "put 3 1 a", "put 0 8 a", "put 0 1 abcdefghijklm",
		"delete 0", "delete 0 1 2", "delete 3 1", "delete 0 8", "delete 0 7", "get 0 1", "get 0 1 00", "get 3 1 0", "get 0 8 0", "get 0 7 9999", "get 0 2 10000",
		"swap 0", "swap 0 3", "swap 3 0", "swap 1 1", "swap 0 1 2", "swap 0 1 ", "seq ", "seq 0", "cache", "cache 3", "owner", "owner 8", "clear",
	}
	steps := []string{"put 0 1 a", "get 1 2 0", "swap 1 2", "put 1 1 b", "get 0 1 1", "swap 0 1", "delete 2 1", "get 0 1 3", "cache 0", "cache 1", "cache 2", "get 1 1 0", "get 2 2 0", "put 2 5 c", "get 1 1 4", "seq"}
	plain := strings.Split(run.Run(strings.Join(steps, "\n")), "\n")
	for _, line := range refused {
		for at := range steps {
			all := append(append(append([]string(nil), steps[:at]...), line, line), steps[at:]...)
			got := strings.Split(run.Run(strings.Join(all, "\n")), "\n")
			if is := got[at]; is != "bad" && !strings.HasPrefix(is, "Err") || got[at+1] != is {
				t.Errorf("%q at %d: got %q and %q, want it to be refused", line, at, got[at], got[at+1])
			}
			if left := append(append([]string(nil), got[:at]...), got[at+2:]...); strings.Join(left, "\n") != strings.Join(plain, "\n") {
				t.Errorf("%q at %d: all others got %q, want %q", line, at, left, plain)
			}
		}
	}
}

// TestFirstLines holds the answers to the first lines of a text against the beginning of the answers to all.
func TestFirstLines(t *testing.T) {
	g := rand.New(rand.NewPCG(20, 4))
	for range 40 {
		text := session(g, 1+g.IntN(api.MaxRun))
		all := run.Run(text)
		lines := strings.SplitAfter(text, "\n")
		answered := strings.SplitAfter(all, "\n")
		for n := range len(lines) + 1 {
			first := strings.Join(lines[:n], "")
			want := strings.Join(answered[:min(n, len(answered))], "")
			answers(t, first, want)
			// Its last line is the same without byte 10, but where it is an empty one.
			if whole := strings.TrimSuffix(first, "\n"); whole != "" && !strings.HasSuffix(whole, "\n") {
				answers(t, whole, want)
			}
		}
	}
	// Of one that is too long the answers to the first lines are no beginning.
	text := session(g, api.MaxRun+1)
	first := text[:strings.LastIndexByte(text[:api.MaxRun], '\n')+1]
	answers(t, text, tooLong)
	answers(t, first, plays(first))
}

// TestRunsShareNothing has texts answered between each other, and at one time.
func TestRunsShareNothing(t *testing.T) {
	g := rand.New(rand.NewPCG(20, 5))
	var texts, want []string
	for range 16 {
		texts = append(texts, session(g, 1+g.IntN(api.MaxRun)))
		want = append(want, plays(texts[len(texts)-1]))
	}
	for range 3 {
		for i, text := range texts {
			answers(t, text, want[i])
			answers(t, text, want[i])
			says(t, "seq", "0", "cache 0", "-", "cache 1", "-", "cache 2", "-")
		}
	}
	var group sync.WaitGroup
	for i, text := range texts {
		group.Go(func() {
			for range 20 {
				if got := run.Run(text); got != want[i] {
					t.Errorf("Run(%q): got %q, want %q", text, got, want[i])
				}
			}
		})
	}
	group.Wait()
}

func TestTextStays(t *testing.T) {
	g := rand.New(rand.NewPCG(20, 6))
	for range 50 {
		b := []byte(session(g, 1+g.IntN(api.MaxRun)))
		text := string(b)
		got := run.Run(text)
		if text != string(b) {
			t.Fatalf("Run(%q): the text is now %q", b, text)
		}
		// What is a part of something greater is read to its own end alone.
		within := "put 0 1 a\n" + text + "\nput 0 1 b"
		answers(t, within[10:10+len(text)], got)
	}
}

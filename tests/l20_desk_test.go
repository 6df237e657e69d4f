package tests

import (
	"bytes"
	"fmt"
	"math/rand"
	"regexp"
	"slices"
	"strconv"
	"strings"
	"sync"
	"testing"

	"loop.example/g00473/impl"
)

// deskDeeds is what a line that is a deed looks like; a number has no nought ahead, and at most six digits.
var deskDeeds = regexp.MustCompile(strings.ReplaceAll(`(?s)\A(?:write (N) (N) (.*)|(give|lose|twice|fetch|fall|tick) (N)|(sure|next|learn))\z`, "N", "0|[1-9][0-9]{0,5}"))

var deskKinds = map[string]int{
	"write": impl.DdWrite, "give": impl.DdGive, "lose": impl.DdLose, "twice": impl.DdTwice, "fetch": impl.DdFetch,
	"sure": impl.DdSure, "fall": impl.DdFall, "tick": impl.DdTick, "next": impl.DdNext, "learn": impl.DdLearn,
}

var (
	wordsAlone    = []string{"sure", "next", "learn", "world", "judge"}
	wordsOfNumber = []string{"give", "lose", "twice", "fetch", "fall", "tick"}
)

var codeTexts = map[int]string{impl.CdDone: "ok", impl.CdNone: "none", impl.CdIdle: "idle", impl.CdFull: "full"}

// noNumbers are texts that Number takes as none; none of them has a blank.
var noNumbers = []string{
	"", "00", "01", "007", "0000000", "000001", "+0", "+1", "-0", "-1", "-999999", "1000000", "1000001", "9999999", "4294967296", "4294967297", "18446744073709551616", "18446744073709551617",
	"99999999999999999999999999", strings.Repeat("0", 1000), strings.Repeat("9", 1000), "a", "x", "1a", "a1", "1a1", "0x1", "0b1", "1e3", "1_0", "1.0", "1.", ".1", "1,0", "O", "l", "\t1", "1\t", "1\n", "\n1",
	"\x001", "1\x00", "1\r", "\u0661", "\uff11", "\u00b2", "\u00a01", "1\u00a0", "\xff", "1\xff", "#", "#1", "1#", "'1'", "A", "B", "/", ":", "1/", "1:", "nought", "one",
}

// deskTexts are lines at all edges but for those of notes, many of which no line is so.
func deskTexts() []string {
	lines := []string{"", " ", "  ", "#", "##", "# x", "#x", " #", "x#", "what", "help", "bad", "ok", "yes", "write", "write ", "write 1", "write 1 ", "write 1 50", "write 1 50 ", "write 1 50 hi", "write 9 1000 x", "write 10 1000 x", "write 9 1001 x", "write 999999 999999 x"}
	for _, word := range wordsAlone {
		lines = append(lines, word, word+" ", word+" 0", " "+word)
	}
	for _, word := range wordsOfNumber {
		for _, a := range []string{"0", "1", "2", "11", "12", "60", "100000", "999999", "1000000", "01", "-1", "", "x", "0 ", "0 0", " 0"} {
			lines = append(lines, word+" "+a)
		}
		lines = append(lines, word, word+"0", " "+word+" 0")
	}
	return lines
}

// deskWorlds are worlds in which each of the deeds is done, and is refused by each of its codes.
func deskWorlds(t *testing.T) map[string]impl.World {
	t.Helper()
	last, old := newWorld(t), busyWorld(t)
	last.Reader.Epoch, last.Known = 40, 40
	old.Reader.Epoch = 1
	return map[string]impl.World{
		"new": newWorld(t), "busy": busyWorld(t), "old": old, "last": last, "full": fullWorld(t), "read": readWorld(t),
		"all but one": worldOf(t, 11, 11), "all are sent": worldOf(t, 12, 3), "all are on their way": worldOf(t, 3, 12), "all": worldOf(t, 12, 12),
		"not judged so": heardWorld(busyWorld(t), sentOf(3)...),
	}
}

// deedBy is which deed a line is once more, by a pattern.
func deedBy(line string) (impl.Deed, bool) {
	m := deskDeeds.FindStringSubmatch(line)
	if m == nil {
		return impl.Deed{}, false
	}
	number := func(s string) int {
		n, _ := strconv.Atoi(s)
		return n
	}
	if m[4] != "" {
		return deedOf(deskKinds[m[4]], number(m[5])), true
	}
	if m[6] != "" {
		return deedOf(deskKinds[m[6]], 0), true
	}
	return writeOf(number(m[1]), number(m[2]), m[3]), true
}

// lineBy is DeskLine once more.
func lineBy(w impl.World, line string) (impl.World, string) {
	if !worldFits(w) {
		return w, "bad"
	}
	if d, ok := deedBy(line); ok {
		after, code := impl.Do(w, d)
		return after, codeTexts[code]
	}
	switch {
	case line == "" || line[0] == 35:
		return w, ""
	case line == "world":
		return w, strings.Join(worldLines(w), "")
	case line == "judge":
		return w, map[bool]string{true: "yes", false: "no"}[judgedBy(w) == allHold]
	}
	return w, "what"
}

// checkLine holds promise 20, too: the world is another one only behind ok.
func checkLine(t *testing.T, what string, w impl.World, line string) (impl.World, string) {
	t.Helper()
	want, wantSays := lineBy(w, line)
	after, says := impl.DeskLine(w, line)
	if says != wantSays || !sameWorld(after, want) {
		t.Fatalf("%s: %.300q of %s = %s, %.300q, want %s, %.300q", what, line, shownWorld(w), shownWorld(after), says, shownWorld(want), wantSays)
	}
	if says != "ok" && !sameWorld(after, w) {
		t.Fatalf("%s: %.300q, which tells %.300q, turns %s into %s", what, line, says, shownWorld(w), shownWorld(after))
	}
	return after, says
}

// checkSays holds what a line tells, too.
func checkSays(t *testing.T, what string, w impl.World, line, want string) impl.World {
	t.Helper()
	after, says := checkLine(t, what, w, line)
	if says != want {
		t.Fatalf("%s: %.300q of %s tells %.300q, want %.300q", what, line, shownWorld(w), says, want)
	}
	return after
}

// checkSaysAll are lines one behind the other, each ahead of what it tells.
func checkSaysAll(t *testing.T, what string, w impl.World, lines ...string) impl.World {
	t.Helper()
	for i := 0; i < len(lines); i += 2 {
		w = checkSays(t, fmt.Sprint(what, ", line ", i/2), w, lines[i], lines[i+1])
	}
	return w
}

// checkDeed holds a line against a deed by the library and lists, not by Do alone.
func checkDeed(t *testing.T, what string, w impl.World, line string, d impl.Deed) string {
	t.Helper()
	want, code := turnedBy(t, w, d)
	if after := checkSays(t, what, w, line, codeTexts[code]); !sameWorld(after, want) {
		t.Fatalf("%s: %.300q of %s = %s, want %s", what, line, shownWorld(w), shownWorld(after), shownWorld(want))
	}
	return codeTexts[code]
}

func TestDeskLimit(t *testing.T) {
	if impl.MaxLines != 60 {
		t.Error("MaxLines is", impl.MaxLines)
	}
}

func TestEachLineIsItsDeed(t *testing.T) {
	told := map[string]int{}
	for what, w := range deskWorlds(t) {
		checkWorldOk(t, what, w, true)
		for _, a := range []int{0, 1, 2, 3, 9, 10, 11, 12, 13, 40, 41, 60, 99, 100, 101, 1000, 99998, 100000, 100001, 999998, 999999} {
			for _, word := range wordsOfNumber {
				told[word+" "+checkDeed(t, what, w, word+" "+strconv.Itoa(a), deedOf(deskKinds[word], a))]++
			}
			note := fmt.Sprint("note ", a)
			told["write "+checkDeed(t, what, w, fmt.Sprintf("write %d 50 %s", a, note), writeOf(a, 50, note))]++
			told["write "+checkDeed(t, what, w, fmt.Sprintf("write 3 %d %s", a, note), writeOf(3, a, note))]++
		}
		for _, word := range wordsAlone[:3] {
			told[word+" "+checkDeed(t, what, w, word, deedOf(deskKinds[word], 0))]++
		}
	}
	for _, want := range []string{
		"write ok", "write idle", "write full", "give ok", "give none", "lose ok", "lose none", "twice ok", "twice none", "twice full",
		"fetch ok", "fetch none", "fetch idle", "fetch full", "sure ok", "fall ok", "tick ok", "tick idle", "next ok", "next idle", "learn ok",
	} {
		if told[want] == 0 {
			t.Errorf("%s is never told", want)
		}
		delete(told, want)
	}
	if len(told) != 0 {
		t.Error("there are too", told)
	}
}

// A deed is told by its word: of two that are alike in their numbers another world comes.
func TestDeskLinesOneBehindTheOther(t *testing.T) {
	w := checkSaysAll(t, "a note", newWorld(t), "judge", "yes", "write 1 50 hi you", "ok", "give 0", "ok", "give 0", "none", "sure", "ok", "fetch 0", "ok", "fetch 0", "idle", "fetch 1", "idle", "fetch 2", "none",
		"twice 0", "ok", "lose 1", "ok", "give 0", "ok", "world", "time 0 sent 1 known 0 epoch 0 got 1\nhi you\n", "judge", "yes")
	fallen := checkSaysAll(t, "it falls", w, "fall 0", "ok", "world", "time 0 sent 1 known 0 epoch 0 got 1\n"+libraryKeysAt(t, alike(2), 0).route+" 1 50 83\nhi you\n", "fetch 0", "ok", "give 0", "ok", "judge", "yes")
	if !sameReader(fallen.Reader, w.Reader) {
		t.Errorf("heard twice, it is %s", shownReader(fallen.Reader))
	}
	checkSaysAll(t, "it does not fall", w, "fall 999999", "ok", "world", "time 0 sent 1 known 0 epoch 0 got 1\nhi you\n", "fetch 0", "idle")
	w = checkSaysAll(t, "time", w, "tick 7", "ok", "tick 0", "ok", "tick 99994", "idle", "tick 100000", "idle", "tick 999999", "idle", "tick 99993", "ok", "tick 1", "idle", "world", "time 100000 sent 1 known 0 epoch 0 got 1\nhi you\n")
	checkSaysAll(t, "keys", w, "next", "ok", "world", "time 100000 sent 1 known 0 epoch 1 got 1\nhi you\n", "learn", "ok", "world", "time 100000 sent 1 known 1 epoch 1 got 1\nhi you\n", "write 0 1 x", "idle",
		"write 0 0 x", "ok", "next", "ok", "give 0", "ok", "fetch 0", "idle", "fetch 1", "ok", "give 0", "ok", "world", "time 100000 sent 2 known 1 epoch 2 got 2\nhi you\nx\n")
	all := newWorld(t)
	for range 12 {
		all = checkSays(t, "twelve", all, "write 0 1000 x", "ok")
	}
	checkSaysAll(t, "no room", all, "write 0 1000 x", "full", "write 10 1001 x", "full", "write 10 1001", "what", "twice 11", "full", "twice 12", "none", "fetch 9", "full", "lose 11", "ok", "write 0 1000 x", "full", "twice 0", "ok", "fetch 0", "full")
}

func TestEmptyLinesAndRemarks(t *testing.T) {
	remarks := []string{"", "#", "##", "# ", "# x", "#x", "#world", "#judge", "#sure", "# write 1 50 hi", "#write 1 50 hi", "#\n", "#\nsure", "#\x00", "#\xff", "#\t", "#" + strings.Repeat("x", 100000)}
	none := []string{" ", "  ", " #", "  # x", "\t#", "\n", "\n#", "\r", "\x00", "\x00#", "x#", "0#", "sure#", "world#", "world #", "sure #", "sure # x", "give 0#", "give 0 #", "\"#", "\uff03", "$", "\"", "//", ";", "\ufeff#", "\xa3"}
	for what, w := range deskWorlds(t) {
		for _, line := range remarks {
			checkSays(t, what, w, line, "")
		}
		for _, line := range none {
			checkSays(t, what, w, line, "what")
		}
	}
	w := newWorld(t)
	for _, x := range allBytes() {
		want := "what"
		if x == '#' {
			want = ""
		}
		checkSays(t, "a byte", w, string([]byte{x}), want)
		checkSays(t, "a byte ahead of a word", w, string([]byte{x})+"sure", want)
		checkSays(t, "a byte ahead of a word and a blank", w, string([]byte{x})+" sure", want)
		checkSays(t, "a byte behind a word", w, "sure"+string([]byte{x}), "what")
		checkSays(t, "a byte in place of another", w, string([]byte{x})+"orld", map[bool]string{true: impl.WorldText(w), false: want}[x == 'w'])
	}
	checkSays(t, "a # of a note", w, "write 1 50 #", "ok")
}

func TestWorldsThatAreNoneAreBad(t *testing.T) {
	worlds := map[string]impl.World{"zero": {}, "too many are sent": worldOf(t, 13, 0), "too many are on their way": worldOf(t, 0, 13), "too many of all": worldOf(t, 300, 300)}
	for what, fault := range worldFaults(t) {
		w := busyWorld(t)
		fault(&w)
		worlds[what] = w
	}
	for what, wire := range wrongWires(t) {
		worlds[what] = worldWith(busyWorld(t), wire)
	}
	for what, s := range wrongSent() {
		w := busyWorld(t)
		w.Sent[3] = s
		worlds["of what is sent "+what] = w
	}
	for what, w := range worlds {
		checkWorldOk(t, what, w, false)
		for _, line := range []string{"", "#", "# x", " ", "world", "world ", "judge", "what", "help", "write 1 50 hi", "write 1 50", "give 0", "give 12", "give 01", "lose 0", "twice 0", "fetch 0", "fetch 2", "fall 0", "tick 1", "tick 999999", "sure", "sure 1", "next", "learn"} {
			checkSays(t, what, w, line, "bad")
		}
	}
	for _, line := range deskTexts() {
		checkSays(t, "zero", impl.World{}, line, "bad")
		checkSays(t, "without a seed", impl.World{Reader: impl.Reader{Seed: alike(2)}}, line, "bad")
	}
}

func TestNumbersOfLines(t *testing.T) {
	w := worldOf(t, 3, 11)
	for _, text := range noNumbers {
		for _, word := range wordsOfNumber {
			checkSays(t, "no number", w, word+" "+text, "what")
		}
		for _, line := range []string{"write N 50 x", "write 1 N x", "write N N x", "write N 50 ", "write 1 N "} {
			checkSays(t, "no number", w, strings.ReplaceAll(line, "N", text), "what")
		}
		checkSays(t, "a note like it", w, "write 1 50 "+text, map[bool]string{true: "ok", false: "idle"}[len(text) <= 200])
	}
	for _, word := range wordsOfNumber {
		for n := range 130 {
			checkLine(t, "a number", w, fmt.Sprint(word, " ", n))
			checkSays(t, "a nought ahead", w, fmt.Sprint(word, " 0", n), "what")
			checkSays(t, "a sign ahead", w, fmt.Sprint(word, " +", n), "what")
		}
		for _, n := range []int{999998, 999999} {
			if _, says := checkLine(t, "a great number", w, fmt.Sprint(word, " ", n)); says == "what" {
				t.Errorf("%s %d tells %s", word, n, says)
			}
		}
		checkSays(t, "too great", w, word+" 1000000", "what")
		checkSays(t, "two of them", w, word+" 1 1", "what")
	}
	for a := range 12 {
		for _, b := range []int{0, 1, 999, 1000, 1001, 999999} {
			want := map[bool]string{true: "ok", false: "idle"}[a <= 9 && b <= 1000]
			after := checkSays(t, "numbers of a note", w, fmt.Sprintf("write %d %d x", a, b), want)
			if x := after.Net[len(after.Net)-1].Item; want == "ok" && (x.Topic != a || x.Due != b) {
				t.Errorf("write %d %d is on its way as %s", a, b, shown(x))
			}
		}
	}
}

// Each text of these is put in place of each blank, ahead of the line and behind it: all blanks but those of a note are one blank.
func TestBlanksOfLines(t *testing.T) {
	w := worldOf(t, 3, 3)
	strange := []string{"", "  ", "   ", "\t", "\t ", " \t", "\n", "\r", "\r\n", "\v", "\f", "\x00", "\u00a0", "\u2003", "\u3000", "\xa0", "\x85", "_", "-", ",", "+", "#", ".", "x", " x", "x "}
	for _, line := range []string{"write 1 50 hi", "give 0", "lose 0", "twice 0", "fetch 0", "fall 0", "tick 1", "sure", "next", "learn", "world", "judge"} {
		if _, says := checkLine(t, "as it is to be", w, line); says == "what" {
			t.Fatalf("%q tells %q", line, says)
		}
		for _, blank := range strange {
			for i := range strings.Count(line, " ") {
				parts := strings.SplitN(line, " ", i+2)
				// What is more than a blank ahead of a note is the note's.
				want := "what"
				if i == 2 && strings.HasPrefix(blank, " ") {
					want = "ok"
				}
				checkSays(t, "another blank", w, strings.Join(parts[:i+1], " ")+blank+parts[i+1], want)
			}
			if blank == "" {
				continue
			}
			ahead := "what"
			if blank == "#" {
				ahead = ""
			}
			checkSays(t, "ahead of a word", w, blank+line, ahead)
			if line != "write 1 50 hi" {
				checkSays(t, "behind it all", w, line+blank, "what")
				checkSays(t, "a blank, and that, behind it all", w, line+" "+blank, "what")
			} else {
				checkSays(t, "behind a note", w, line+blank, "ok")
			}
		}
		checkSays(t, "a blank ahead", w, " "+line, "what")
		checkLine(t, "a blank behind", w, line+" ")
		checkLine(t, "ten blanks behind", w, line+strings.Repeat(" ", 10))
	}
}

func TestWordsOfLines(t *testing.T) {
	w := worldOf(t, 3, 3)
	arguments := []string{"", " ", " 0", " 1", " 0 0", " 1 50", " 1 50 ", " 1 50 hi", " 1 50 1", " x", " x y", " x y z", " 1 x y", " x 1 y", " hi", " 1  50 hi"}
	words := []string{"write", "give", "lose", "twice", "fetch", "fall", "tick", "sure", "next", "learn", "world", "judge"}
	right := map[string]int{}
	for _, word := range words {
		for _, argument := range arguments {
			if _, says := checkLine(t, "a word", w, word+argument); says != "what" {
				right[word]++
			}
		}
		var others []string
		for i := range word {
			others = append(others, word[:i], word[i+1:], word[:i]+word[i:i+1]+word[i:], word[:i]+strings.ToUpper(word[i:i+1])+word[i+1:], word[:i]+"_"+word[i+1:], word[:i]+" "+word[i:], word[:i]+"\x00"+word[i:])
		}
		others = append(others, strings.ToUpper(word), strings.ToUpper(word[:1])+word[1:], word+"s", word+"x", word+word, word+"\x00", word+":", word+"=", "x"+word, "/"+word, word[1:]+word[:1], "\ufeff"+word)
		for _, other := range others {
			for _, argument := range arguments {
				want := "what"
				if other+argument == "" {
					want = ""
				}
				if !slices.Contains(words, other) {
					checkSays(t, "another word", w, other+argument, want)
				}
			}
		}
		for _, other := range words {
			checkLine(t, "two words", w, word+" "+other)
			checkSays(t, "two words in one", w, word+other, "what")
		}
	}
	want := map[string]int{"write": 3, "give": 2, "lose": 2, "twice": 2, "fetch": 2, "fall": 2, "tick": 2, "sure": 1, "next": 1, "learn": 1, "world": 1, "judge": 1}
	if fmt.Sprint(right) != fmt.Sprint(want) {
		t.Errorf("so many were right: %v, want %v", right, want)
	}
	for _, other := range []string{"", "help", "what", "ok", "none", "idle", "full", "bad", "yes", "no", "read", "drop", "sync", "quit", "exit", "?", "time", "sent", "known", "epoch", "got", "Write", "DdWrite", "0", "1", "10"} {
		for _, argument := range arguments[1:] {
			checkSays(t, "another word", w, other+argument, "what")
		}
	}
}

func TestNotesOfLines(t *testing.T) {
	w := newWorld(t)
	note := func(what, text string) {
		t.Helper()
		if len(text) > 200 {
			checkSays(t, what, w, "write 1 50 "+text, "idle")
			return
		}
		after := checkSays(t, what, w, "write 1 50 "+text, "ok")
		if len(after.Sent) != 1 || string(after.Sent[0].Note) != text {
			t.Fatalf("%s: of %q there is %s", what, text, shownWorld(after))
		}
	}
	note("nothing", "")
	checkSays(t, "no blank ahead of it", w, "write 1 50", "what")
	for _, text := range []string{" ", "  ", "   ", " a", "a ", "  a", "a  ", " a ", "a b", "a  b", " a  b ", "1", "1 2", " 1", "0", "01", "#", "# x", "sure", "write 1 50 hi", " write 1 50 hi", "world", "hi\tho", "\t", "\r", "hi\nho", "\n", "hi\n", "\nhi"} {
		note("blanks in it", text)
	}
	for _, text := range slices.Concat(strangeNotes, oddTexts) {
		note("a strange one", text)
	}
	for _, x := range allBytes() {
		note("a byte", string([]byte{x}))
		note("a byte amidst", string([]byte{'a', x, 'b'}))
		note("a byte ahead and behind", string([]byte{x, 'a', x}))
	}
	note("many bytes", string(allBytes()[:200]))
	note("other bytes", string(allBytes()[56:]))
	for _, many := range []int{1, 30, 31, 94, 95, 190, 191, 198, 199, 200, 201, 202, 255, 256, 1000, 65536, 65736, 1 << 20} {
		for _, x := range []byte{0, ' ', '0', 'x', 128, 255} {
			note("of a size", strings.Repeat(string([]byte{x}), many))
		}
		note("runes", strings.Repeat("é", many))
	}
	// What is written is read as it was, also a note of nothing.
	for _, text := range []string{"", "a", " ", " a  b ", "\x00\x80\xff", strings.Repeat(" ", 200), strings.Repeat("\xff", 200), "#", "write 1 50 hi"} {
		checkSaysAll(t, "as it was", w, "write 1 50 "+text, "ok", "give 0", "ok", "fetch 0", "ok", "give 0", "ok", "world", "time 0 sent 1 known 0 epoch 0 got 1\n"+text+"\n", "judge", "yes")
	}
}

func TestWhatAsksOfAWorld(t *testing.T) {
	said := map[string]int{}
	worlds := deskWorlds(t)
	for what, w := range judgedWorlds(t) {
		worlds["judged: "+what] = w
	}
	for what, w := range worlds {
		_, text := checkLine(t, what, w, "world")
		_, judge := checkLine(t, what, w, "judge")
		if impl.WorldOk(w) != (text == impl.WorldText(w)) || impl.WorldOk(w) == (judge == "bad") || impl.JudgeAll(w) != (judge == "yes") {
			t.Errorf("%s: it tells %q and %q", what, text, judge)
		}
		said[judge]++
		if !impl.WorldOk(w) {
			continue
		}
		for _, behind := range []string{" ", "  ", " 0", " 1", " x", "\n", "\t", "\x00", "s", "#", " #", " world", " judge", "?", "!"} {
			checkSays(t, what, w, "world"+behind, "what")
			checkSays(t, what, w, "judge"+behind, "what")
		}
	}
	if said["yes"] < 4 || said["no"] < 4 || said["bad"] < 1 {
		t.Error("the judge says", said)
	}
	from := rand.New(rand.NewSource(200))
	for range 600 {
		w := tampered(t, from, fullWorld(t))
		checkLine(t, "tampered with", w, "world")
		_, judge := checkLine(t, "tampered with", w, "judge")
		said[judge]++
	}
	if said["yes"] < 20 || said["no"] < 100 || said["bad"] < 20 {
		t.Error("the judge says", said)
	}
}

// Promise 20: lines that ask, that tell nothing, or that are refused, make no way another one.
func TestWhatAsksTurnsNothing(t *testing.T) {
	others := []string{"world", "judge", "", "# x", "help", "write 1 50", "write 10 5 x", "write 1 1001 x", "give 12", "lose 12", "twice 12", "fetch 2", "tick 999999", "sure 1", "give 01", "world ", " "}
	plain, pestered := newWorld(t), newWorld(t)
	for _, line := range []string{"write 1 50 one", "write 0 50 two", "give 0", "twice 0", "give 0", "give 0", "sure", "fetch 0", "give 0", "tick 3", "next", "write 3 0 three", "give 0", "fetch 1", "twice 0", "lose 1", "give 0", "learn", "write 4 1000 four", "give 0", "fetch 0", "give 0", "fall 260", "fetch 0", "give 0"} {
		for _, other := range others {
			after, says := checkLine(t, "among others", pestered, other)
			if says == "ok" || !sameWorld(after, pestered) {
				t.Fatalf("%q tells %q, and turns %s into %s", other, says, shownWorld(pestered), shownWorld(after))
			}
			pestered = after
		}
		plain, pestered = checkSays(t, "alone", plain, line, "ok"), checkSays(t, "among others", pestered, line, "ok")
		if !sameWorld(plain, pestered) {
			t.Fatalf("behind %q there is %s, want %s", line, shownWorld(pestered), shownWorld(plain))
		}
	}
	if got := fmt.Sprintf("%s", plain.Reader.Got); got != "[one two four]" {
		t.Errorf("it got %s", got)
	}
}

// lineOfDeed is a line that is the deed, but where there is none for it.
func lineOfDeed(d impl.Deed) string {
	for word, kind := range deskKinds {
		switch {
		case kind != d.Kind:
		case kind == impl.DdWrite:
			return fmt.Sprintf("write %d %d %s", d.A, d.B, d.Note)
		case slices.Contains(wordsAlone, word):
			return word
		default:
			return fmt.Sprint(word, " ", d.A)
		}
	}
	return fmt.Sprint("kind ", d.Kind)
}

// bentLine has a byte more, less, or another one.
func bentLine(from *rand.Rand, line string) string {
	signs := " \t#0192xX\x00\xff\n"
	place, sign := from.Intn(len(line)+1), string(signs[from.Intn(len(signs))])
	if place == len(line) {
		return line + sign
	}
	return line[:place] + []string{sign + line[place:place+1], sign, ""}[from.Intn(3)] + line[place+1:]
}

// drawnLine is often a deed that is done.
func drawnLine(from *rand.Rand, w impl.World) string {
	d := drawnDeed(from, w)
	if d.Kind == impl.DdWrite && from.Intn(2) == 0 {
		d.Note = make([]byte, from.Intn(60))
		from.Read(d.Note)
	}
	switch from.Intn(24) {
	case 0:
		return "world"
	case 1:
		return "judge"
	case 2:
		return []string{"", "#", "# x"}[from.Intn(3)]
	case 3:
		texts := deskTexts()
		return texts[from.Intn(len(texts))]
	case 4:
		return bentLine(from, lineOfDeed(d))
	case 5, 6:
		return fmt.Sprint("write ", from.Intn(10), " 50 ", from.Intn(1000))
	case 7, 8:
		return fmt.Sprint("twice ", from.Intn(2))
	case 9:
		return fmt.Sprint("lose ", from.Intn(3))
	}
	return lineOfDeed(d)
}

func checkOften(t *testing.T, count map[string]int, least int, names ...string) {
	t.Helper()
	for _, name := range names {
		if count[name] < least {
			t.Errorf("%s: %d times only", name, count[name])
		}
	}
}

// saidWord is what a line told, but for a text of a world.
func saidWord(says string) string {
	if strings.HasPrefix(says, "time ") {
		return "world"
	}
	return says
}

func TestLinesAgainstDeeds(t *testing.T) {
	from := rand.New(rand.NewSource(20))
	count := map[string]int{}
	for range 40 {
		w, ok := impl.WorldNew(oftenEdgy(from), oftenEdgy(from))
		if !ok {
			t.Fatal("there is no new world")
		}
		for range 100 {
			line := drawnLine(from, w)
			after, says := checkLine(t, "drawn", w, line)
			word, _, _ := strings.Cut(line, " ")
			count[word+": "+saidWord(says)]++
			count[saidWord(says)]++
			w = after
		}
		count["got"] += len(w.Reader.Got)
		if text, _ := checkLine(t, "drawn", w, "judge"); !sameWorld(text, w) {
			t.Fatalf("asked, it is %s", shownWorld(text))
		}
	}
	checkOften(t, count, 30, "ok", "none", "idle", "full", "what", "world", "yes", "", "got")
	for word := range deskKinds {
		checkOften(t, count, 20, word+": ok")
	}
	if count["no"] != 0 || count["bad"] != 0 {
		t.Errorf("behind drawn lines the judge says no %d times, and %d are bad", count["no"], count["bad"])
	}
}

// sessionBy is Session once more: each line by DeskLine, cut at each byte 10.
func sessionBy(t *testing.T, lines string) (string, int) {
	t.Helper()
	list := bytes.SplitAfter([]byte(lines), []byte{10})
	if last := len(list) - 1; len(list[last]) == 0 {
		list = list[:last]
	}
	if len(list) > 60 {
		return "", -2
	}
	w, all := newWorld(t), ""
	for _, line := range list {
		after, says := impl.DeskLine(w, strings.TrimSuffix(string(line), "\n"))
		if says != "" {
			all += says + "\n"
		}
		w = after
	}
	return all, len(list)
}

func checkSession(t *testing.T, what, lines, want string, many int) {
	t.Helper()
	again, manyAgain := sessionBy(t, lines)
	said, n := impl.Session(lines)
	if said != want || n != many || again != want || manyAgain != many {
		t.Fatalf("%s: the session %.300q = %.300q, %d, want %.300q, %d, and line by line %.300q, %d", what, lines, said, n, want, many, again, manyAgain)
	}
}

func TestSessionsOfFewLines(t *testing.T) {
	empty := "time 0 sent 0 known 0 epoch 0 got 0\n\n"
	for lines, want := range map[string]struct {
		said string
		many int
	}{
		"":                         {"", 0},
		"\n":                       {"", 1},
		"\n\n":                     {"", 2},
		"\n\n\n":                   {"", 3},
		"#":                        {"", 1},
		"#\n":                      {"", 1},
		"#\n#":                     {"", 2},
		"\n#":                      {"", 2},
		"#\n\n":                    {"", 2},
		" ":                        {"what\n", 1},
		" \n":                      {"what\n", 1},
		"\n ":                      {"what\n", 2},
		"sure":                     {"ok\n", 1},
		"sure\n":                   {"ok\n", 1},
		"\nsure":                   {"ok\n", 2},
		"\nsure\n":                 {"ok\n", 2},
		"sure\n\n":                 {"ok\n", 2},
		"sure\n\nsure":             {"ok\nok\n", 3},
		"sure\n\n\nsure\n\n":       {"ok\nok\n", 5},
		"sure\nnext":               {"ok\nok\n", 2},
		"sure\r\nnext":             {"what\nok\n", 2},
		"sure\rnext":               {"what\n", 1},
		"sure\x00":                 {"what\n", 1},
		"sure\x00\nsure":           {"what\nok\n", 2},
		"sure\u2028next":           {"what\n", 1},
		"sure\u0085next":           {"what\n", 1},
		"sure\vnext\fsure":         {"what\n", 1},
		"world":                    {empty, 1},
		"world\n":                  {empty, 1},
		"world\nworld":             {empty + empty, 2},
		"world\njudge":             {empty + "yes\n", 2},
		"judge":                    {"yes\n", 1},
		"judge\n":                  {"yes\n", 1},
		"help":                     {"what\n", 1},
		"help\n\n#\nhelp":          {"what\nwhat\n", 4},
		"fetch 0":                  {"idle\n", 1},
		"give 0\ngive 0":           {"none\nnone\n", 2},
		"\xff\n\xff":               {"what\nwhat\n", 2},
		"tick 7\ntick 5\nworld":    {"ok\nok\ntime 12 sent 0 known 0 epoch 0 got 0\n\n", 3},
		"next\nnext\nlearn\nworld": {"ok\nok\nok\ntime 0 sent 0 known 2 epoch 2 got 0\n\n", 4},
		"write 1 50 \nworld":       {"ok\ntime 0 sent 1 known 0 epoch 0 got 0\n\n", 2},
		"write 1 50 ":              {"ok\n", 1},
		"write 1 50":               {"what\n", 1},
		"write 1 50\n":             {"what\n", 1},
		"write 1 50 hi\n\nsure":    {"ok\nok\n", 3},
		"write 1 50 hi\r\nlose 0":  {"ok\nok\n", 2},
	} {
		checkSession(t, "few", lines, want.said, want.many)
	}
}

// The reader is the one of 32 bytes 2, as its routes tell; each of the notes is read as it was.
func TestASessionFromTheWorldThatTheDocumentNames(t *testing.T) {
	first, second := libraryKeysAt(t, alike(2), 0).route, libraryKeysAt(t, alike(2), 1).route
	checkSession(t, "one waits", "write 1 50 hi\ngive 0\nworld\n", "ok\nok\ntime 0 sent 1 known 0 epoch 0 got 0\n"+first+" 1 50 83\n\n", 3)
	checkSession(t, "two wait", "tick 9\nwrite 1 50 hi\nnext\nlearn\nwrite 0 6 "+strings.Repeat("ho", 40)+"\ngive 1\ngive 0\nworld\njudge", "ok\nok\nok\nok\nok\nok\nok\ntime 9 sent 2 known 1 epoch 1 got 0\n"+second+" 0 15 147\n"+first+" 1 59 83\n\nyes\n", 9)
	checkSession(t, "read", "# a note\nwrite 1 50  a  b \ngive 0\n\nfetch 0\ngive 0\nworld", "ok\nok\nok\nok\ntime 0 sent 1 known 0 epoch 0 got 1\n a  b \n\n", 7)
	checkSession(t, "it falls", "write 1 50 hi\ngive 0\nsure\nfetch 0\nfall 0\nworld\ngive 0\nfetch 0\ngive 0\nworld", "ok\nok\nok\nok\nok\ntime 0 sent 1 known 0 epoch 0 got 0\n"+first+" 1 50 83\n\nok\nok\nok\ntime 0 sent 1 known 0 epoch 0 got 1\nhi\n\n", 10)
	checkSession(t, "each tells its own", "write 1 50 a\ntwice 0\ngive 0\ngive 0\ngive 0\nfetch 0\nlose 0\nfetch 0\ntick 100001\ntick 51\nworld\nsay\n", "ok\nok\nok\nok\nnone\nok\nok\nidle\nidle\nok\ntime 51 sent 1 known 0 epoch 0 got 0\n\nwhat\n", 12)
}

func TestSessionsOfTheMostLines(t *testing.T) {
	for _, line := range []string{"", "#", "# x", "sure", "tick 1", "world", "judge", "help", "give 0"} {
		for _, many := range []int{0, 1, 2, 58, 59, 60, 61, 62, 63, 119, 120, 121, 316, 1000} {
			said, n := sessionBy(t, strings.Repeat(line+"\n", many))
			if n != many && many <= 60 || n != -2 && many > 60 || said != "" && many > 60 {
				t.Fatalf("%d lines are %d", many, n)
			}
			checkSession(t, "each ends with a byte 10", strings.Repeat(line+"\n", many), said, n)
		}
	}
	for _, many := range []int{58, 59, 60, 61, 62} {
		for _, each := range []string{"\n", "#\n", "sure\n", "help\n"} {
			for _, last := range []string{"", "\n", "#", "#\n", " ", "sure", "sure\n", "world", "help", "\x00"} {
				// The last one is a line where there is something in it, or a byte 10 behind it.
				lines, want := strings.Repeat(each, many)+last, many+min(len(last), 1)
				said, n := impl.Session(lines)
				if want > 60 && (said != "" || n != -2) || want <= 60 && n != want {
					t.Fatalf("%d lines %q and %q: %q, %d", many, each, last, said, n)
				}
				again, manyAgain := sessionBy(t, lines)
				checkSession(t, "the last one", lines, again, manyAgain)
			}
		}
	}
	checkSession(t, "59 and a word", strings.Repeat("\n", 59)+"sure", "ok\n", 60)
	checkSession(t, "59 and a word that ends", strings.Repeat("\n", 59)+"sure\n", "ok\n", 60)
	checkSession(t, "60 and a word", strings.Repeat("\n", 60)+"sure", "", -2)
	checkSession(t, "60 and a #", strings.Repeat("\n", 60)+"#", "", -2)
	checkSession(t, "60 and an empty one", strings.Repeat("sure\n", 60)+"\n", "", -2)
	checkSession(t, "60", strings.Repeat("tick 1\n", 59)+"world", strings.Repeat("ok\n", 59)+"time 59 sent 0 known 0 epoch 0 got 0\n\n", 60)
	checkSession(t, "61", strings.Repeat("tick 1\n", 60)+"world", "", -2)
	checkSession(t, "very many", strings.Repeat("\n", 1<<22), "", -2)
	checkSession(t, "very many words", strings.Repeat("sure\n", 1<<20), "", -2)
	checkSession(t, "one long line", strings.Repeat("sure", 1<<20), "what\n", 1)
	checkSession(t, "one long remark", "#"+strings.Repeat(" sure", 1<<20)+"\nsure", "ok\n", 2)
	checkSession(t, "one long note", "write 1 50 "+strings.Repeat("x", 1<<20)+"\nsure", "idle\nok\n", 2)
}

// Promise 20: drawn sessions of each length tell what their lines do.
func TestSessionsAgainstTheirLines(t *testing.T) {
	from := rand.New(rand.NewSource(202))
	count := map[string]int{}
	for i := range 190 {
		many := i % 63
		w, lines, said := newWorld(t), []string{}, ""
		for range many {
			line := drawnLine(from, w)
			if strings.Contains(line, "\n") {
				line = "world"
			}
			after, says := impl.DeskLine(w, line)
			if says != "" {
				said += says + "\n"
			}
			count[saidWord(says)]++
			w, lines = after, append(lines, line)
		}
		// Were the last line empty, the text without a byte 10 behind it would be of one line less.
		text, want := strings.Join(lines, "\n"), many
		if many > 60 {
			said, want = "", -2
		}
		if many > 0 {
			checkSession(t, "with a byte 10 at the end", text+"\n", said, want)
		}
		if many == 0 || lines[many-1] != "" {
			checkSession(t, "drawn", text, said, want)
		}
	}
	checkOften(t, count, 30, "ok", "none", "idle", "what", "world", "yes", "")
	checkOften(t, count, 10, "full")
}

// deskAsks are lines of a world that is right, and of one that is not.
func deskAsks(w impl.World) map[string]func() (impl.World, string) {
	wrong := w
	wrong.Known = -1
	asks := map[string]func() (impl.World, string){}
	lines := []string{
		"", "#", "# x", "world", "judge", "help", "write 1 50 hi", "write 2 3 ", "write 1 50", "write 10 1 x", "give 0", "give 1", "give 7", "give 01", "lose 0", "lose 7", "twice 1", "twice 7", "fetch 0", "fetch 1", "fetch 2",
		"fall 0", "fall 100", "tick 1", "tick 999999", "sure", "sure 1", "next", "learn",
	}
	for _, line := range lines {
		asks[line] = func() (impl.World, string) { return impl.DeskLine(w, line) }
		asks["of none: "+line] = func() (impl.World, string) { return impl.DeskLine(wrong, line) }
	}
	return asks
}

func TestLinesAnswerAnewEachTime(t *testing.T) {
	w, was := roomyWorld(t), roomyWorld(t)
	for line, ask := range deskAsks(w) {
		kept, said := ask()
		kept = clonedWorld(kept)
		got, _ := ask()
		writeOverWorld(got)
		if !sameWorld(w, was) {
			t.Fatalf("%q shares memory with an argument: %s", line, shownWorld(w))
		}
		if again, saidAgain := ask(); !sameWorld(again, kept) || saidAgain != said {
			t.Errorf("%q, asked again, = %s, %q, want %s, %q", line, shownWorld(again), saidAgain, shownWorld(kept), said)
		}
	}
}

// What is given may be written over behind a call: what was answered stays as it was.
func TestAWorldThatChangesBehindALine(t *testing.T) {
	for line := range deskAsks(roomyWorld(t)) {
		w := roomyWorld(t)
		got, said := deskAsks(w)[line]()
		kept, saidKept := clonedWorld(got), strings.Clone(said)
		writeOverWorld(w)
		if !sameWorld(got, kept) || said != saidKept {
			t.Errorf("%q turned into %s, %q, want %s, %q", line, shownWorld(got), said, shownWorld(kept), saidKept)
		}
	}
}

// Also where what was given shares its bytes, what is answered shares none.
func TestTheListsBehindALineShareNothing(t *testing.T) {
	sharing := roomyWorld(t)
	sharing.Reader.Seed, sharing.Reader.Got = sharing.Seed, [][]byte{sharing.Sent[0].Note}
	sharing.Sent[1].Bytes, sharing.Net[0].Bytes = sharing.Sent[0].Bytes, sharing.Sent[0].Bytes
	sharing.Reader.Seen = [][]byte{sharing.Sent[0].Bytes}
	checkWorldOk(t, "lists that share their bytes", sharing, true)
	for _, from := range []impl.World{roomyWorld(t), sharing} {
		for line, ask := range deskAsks(from) {
			got, _ := ask()
			lists := listsOf(&got)
			for i := range lists {
				for j := range lists[:i] {
					checkApart(t, line, *lists[i], *lists[j])
				}
			}
			got, _ = ask()
			seen := clonedLists(got.Reader.Seen)
			writeOverLists(got.Reader.Got)
			if !sameLists(got.Reader.Seen, seen) {
				t.Errorf("%q: Seen shares memory with Got", line)
			}
		}
	}
}

func TestLinesLeaveTheirArgumentsAlone(t *testing.T) {
	w := roomyWorld(t)
	// Behind each list there is room, in which others stand.
	wide := w
	wide.Net, wide.Sent, wide.Post.Queue = append(w.Net, netOf(7)...), append(w.Sent, sentOf(9)...), append(w.Post.Queue, fullQueue()...)
	wide.Reader.Seen, wide.Reader.Got = append(w.Reader.Seen, someSeen(5)...), append(w.Reader.Got, someSeen(7)...)
	kept := clonedWorld(wide)
	var rooms, roomsKept [][]byte
	for _, list := range listsOf(&w) {
		whole := append(*list, bytes.Repeat([]byte{165}, cap(*list)-len(*list))...)
		rooms, roomsKept = append(rooms, whole), append(roomsKept, bytes.Clone(whole))
	}
	for _, ask := range deskAsks(w) {
		ask()
	}
	if !sameWorld(wide, kept) || !sameLists(rooms, roomsKept) {
		t.Errorf("what was given turned into %s", shownWorld(wide))
	}
}

// A world from which two lines lead: neither is to be seen in what the other leads to.
func TestTwoLinesFromOneWorld(t *testing.T) {
	w, was := roomyWorld(t), roomyWorld(t)
	one, two := checkSays(t, "one", w, "write 1 1 one", "ok"), checkSays(t, "two", w, "write 2 2 two", "ok")
	if string(one.Sent[4].Note) != "one" || string(two.Sent[4].Note) != "two" || one.Net[len(one.Net)-1].Item.Topic != 1 || two.Net[len(two.Net)-1].Item.Topic != 2 || !sameWorld(w, was) {
		t.Errorf("from %s there are %s and %s", shownWorld(w), shownWorld(one), shownWorld(two))
	}
}

// No session knows of another one, nor of lines that were asked between.
func TestSessionsKeepNothing(t *testing.T) {
	sessions := []string{"world", "write 1 50 hi\ngive 0\nworld", "tick 5\nworld", "next\nlearn\nworld", strings.Repeat("\n", 61), "write 1 50 ho\ngive 0\nfetch 0\ngive 0\nworld\njudge", ""}
	want := map[string]string{}
	for _, lines := range sessions {
		want[lines], _ = impl.Session(lines)
	}
	for range 3 {
		for _, lines := range sessions {
			impl.DeskLine(busyWorld(t), "tick 3")
			if said, _ := impl.Session(lines); said != want[lines] {
				t.Errorf("the session %q = %q, want %q", lines, said, want[lines])
			}
		}
	}
}

func TestLinesOfManyAtATime(t *testing.T) {
	type answer struct {
		world impl.World
		said  string
	}
	w, want := roomyWorld(t), map[string]answer{}
	asks := deskAsks(w)
	for line, ask := range asks {
		world, said := ask()
		want[line] = answer{world, said}
	}
	session := "write 1 50 hi\ngive 0\nworld\nfetch 0\ngive 0\nworld\njudge"
	whole, many := impl.Session(session)
	var all sync.WaitGroup
	for range 8 {
		all.Go(func() {
			for range 3 {
				for line, ask := range asks {
					if got, said := ask(); !sameWorld(got, want[line].world) || said != want[line].said {
						t.Errorf("%q = %s, %q", line, shownWorld(got), said)
					}
				}
				if said, n := impl.Session(session); said != whole || n != many {
					t.Errorf("the session = %q, %d", said, n)
				}
			}
		})
	}
	all.Wait()
}

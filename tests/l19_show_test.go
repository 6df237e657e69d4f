package tests

import (
	"bytes"
	"fmt"
	"math"
	"math/rand"
	"slices"
	"strconv"
	"strings"
	"sync"
	"testing"

	"loop.example/g00473/impl"
)

// numberTexts are numbers at the edges, and how each is written.
var numberTexts = map[int]string{
	0: "0", 1: "1", -1: "-1", 7: "7", 9: "9", 10: "10", -9: "-9", -10: "-10", 32: "32", 40: "40", 41: "41", 99: "99", 100: "100", 255: "255", 256: "256",
	65535: "65535", 65536: "65536", 100000: "100000", 100001: "100001", 1<<31 - 1: "2147483647", 1 << 31: "2147483648", -1 << 31: "-2147483648", 1<<32 + 1: "4294967297",
	math.MaxInt: "9223372036854775807", math.MaxInt - 1: "9223372036854775806", math.MinInt: "-9223372036854775808", math.MinInt + 1: "-9223372036854775807",
}

var shownSizes = []int{0, 1, 2, 9, 10, 16, 17, 48, 99, 100, 1560, 1561, 65536, 1 << 20}

// strangeNotes are shown as they are, though some of them look like lines of their own.
var strangeNotes = []string{
	"", "a", " ", "  ", "\n", "\n\n", "a\n", "\na", "a\nb", "a b", " a", "a ", "\x00", "a\x00b", "\x00\n\x00", "\t", "\r\n", "\x7f", "\x80", "\xff", "\xff\xfe", "\xc3", "\xe2\x82", "é", "€", "\U0001f600",
	"\ufeff", "\u2028", "\xed\xa0\x80", "%d %s %x", "\\n", "\"", "'", "<nil>", "?", "time 0 sent 0 known 0 epoch 0 got 0\n", "aa 1 5 1\n", "a\xffb\n\x80 \x00", strings.Repeat("x", 200), strings.Repeat("\n", 201), strings.Repeat("\xff", 5000),
}

// letterLine is LetterText once more.
func letterLine(l impl.Letter) string {
	var start string
	for _, b := range l.From[:min(4, len(l.From))] {
		start += fmt.Sprintf("%02x", b)
	}
	return fmt.Sprintf("%d %s %d", l.Epoch, start, len(l.Box))
}

// itemLine is ItemText once more.
func itemLine(x impl.Item) string {
	return strings.Join([]string{x.Route, fmt.Sprint(x.Topic), fmt.Sprint(x.Due), fmt.Sprint(len(x.Bytes))}, " ")
}

// worldLines are the lines of WorldText once more, each with the byte 10 behind it.
func worldLines(w impl.World) []string {
	lines := []string{fmt.Sprintf("time %d sent %d known %d epoch %d got %d\n", w.Post.Time, w.Count, w.Known, w.Reader.Epoch, len(w.Reader.Got))}
	for _, x := range w.Post.Queue {
		lines = append(lines, itemLine(x)+"\n")
	}
	for _, note := range w.Reader.Got {
		lines = append(lines, string(note)+"\n")
	}
	return lines
}

func checkLetterText(t *testing.T, what string, l impl.Letter, want string) {
	t.Helper()
	if got := impl.LetterText(l); got != want || want != letterLine(l) {
		t.Fatalf("%s: LetterText of {%d %x %d bytes} is %q, want %q, and once more %q", what, l.Epoch, l.From, len(l.Box), got, want, letterLine(l))
	}
}

func checkItemText(t *testing.T, what string, x impl.Item, want string) {
	t.Helper()
	if got := impl.ItemText(x); got != want || want != itemLine(x) {
		t.Fatalf("%s: ItemText of %s is %.200q, want %.200q, and once more %.200q", what, shown(x), got, want, itemLine(x))
	}
}

// hasItsOwnLine tells that no note breaks the line that it stands in.
func hasItsOwnLine(w impl.World) bool {
	for _, x := range w.Post.Queue {
		if strings.Contains(x.Route, "\n") {
			return false
		}
	}
	for _, note := range w.Reader.Got {
		if bytes.ContainsRune(note, '\n') {
			return false
		}
	}
	return true
}

// checkWorldText holds promise 19 too: the last byte is a 10, and there are as many as there are lines.
func checkWorldText(t *testing.T, what string, w impl.World) string {
	t.Helper()
	got, want := impl.WorldText(w), strings.Join(worldLines(w), "")
	if got != want {
		t.Fatalf("%s: WorldText of %s is %.300q, want %.300q", what, shownWorld(w), got, want)
	}
	if got[len(got)-1] != 10 {
		t.Fatalf("%s: WorldText of %s has no byte 10 at its end: %.300q", what, shownWorld(w), got)
	}
	if many := 1 + len(w.Post.Queue) + len(w.Reader.Got); hasItsOwnLine(w) && strings.Count(got, "\n") != many {
		t.Fatalf("%s: WorldText of %s has %d lines, want %d", what, shownWorld(w), strings.Count(got, "\n"), many)
	}
	for _, x := range w.Post.Queue {
		checkItemText(t, what, x, itemLine(x))
	}
	return got
}

func checkWorldIs(t *testing.T, what string, w impl.World, want ...string) {
	t.Helper()
	if got := checkWorldText(t, what, w); got != strings.Join(want, "") {
		t.Fatalf("%s: WorldText of %s is %.300q, want %.300q", what, shownWorld(w), got, want)
	}
}

func lettersOf(from []byte, box int) impl.Letter {
	return impl.Letter{Epoch: 5, From: from, Box: someBytes(box)}
}

func TestLettersAreShown(t *testing.T) {
	for what, c := range map[string]struct {
		l    impl.Letter
		want string
	}{
		"nothing":            {impl.Letter{}, "0  0"},
		"empty":              {impl.Letter{From: []byte{}, Box: []byte{}}, "0  0"},
		"no From":            {lettersOf(nil, 48), "5  48"},
		"1 byte":             {lettersOf([]byte{171}, 48), "5 ab 48"},
		"2 bytes":            {lettersOf([]byte{171, 205}, 48), "5 abcd 48"},
		"3 bytes":            {lettersOf([]byte{1, 2, 3}, 48), "5 010203 48"},
		"4 bytes":            {lettersOf([]byte{1, 2, 3, 4}, 48), "5 01020304 48"},
		"5 bytes":            {lettersOf([]byte{1, 2, 3, 4, 5}, 48), "5 01020304 48"},
		"31 bytes":           {lettersOf(alike(222)[:31], 48), "5 dededede 48"},
		"32 bytes":           {lettersOf(alike(222), 48), "5 dededede 48"},
		"33 bytes":           {lettersOf(append(alike(222), 1), 48), "5 dededede 48"},
		"below 16":           {lettersOf([]byte{0, 1, 9, 15, 16}, 48), "5 0001090f 48"},
		"all 0":              {lettersOf(make([]byte, 32), 48), "5 00000000 48"},
		"a single 0":         {lettersOf([]byte{0}, 48), "5 00 48"},
		"all 255":            {lettersOf(ones32(), 48), "5 ffffffff 48"},
		"0 and 255":          {lettersOf([]byte{255, 0, 0, 255, 9}, 48), "5 ff0000ff 48"},
		"bytes of a text":    {lettersOf([]byte("a b\n"), 48), "5 6120620a 48"},
		"no Box":             {lettersOf([]byte{1, 2, 3, 4}, 0), "5 01020304 0"},
		"a Box of 1":         {lettersOf([]byte{1, 2, 3, 4}, 1), "5 01020304 1"},
		"a Box of many":      {lettersOf([]byte{1, 2, 3, 4}, 100000), "5 01020304 100000"},
		"no From, no Box":    {lettersOf(nil, 0), "5  0"},
		"a Box alone":        {impl.Letter{Box: make([]byte, 20)}, "0  20"},
		"a From alone":       {impl.Letter{From: []byte{9}}, "0 09 0"},
		"as the document's":  {impl.Letter{Epoch: 2, From: []byte{1, 2, 3, 4, 5}, Box: make([]byte, 20)}, "2 01020304 20"},
		"an epoch below 0":   {impl.Letter{Epoch: -3, From: []byte{7}}, "-3 07 0"},
		"a Box like a From":  {impl.Letter{Epoch: 1, From: []byte{2}, Box: []byte{3, 4, 5, 6, 7}}, "1 02 5"},
		"spare room in both": {impl.Letter{Epoch: 1, From: someBytes(40)[:0], Box: someBytes(40)[:0]}, "1  0"},
	} {
		checkLetterText(t, what, c.l, c.want)
	}
}

func TestLettersAtTheEdges(t *testing.T) {
	for n, text := range numberTexts {
		checkLetterText(t, "an epoch", impl.Letter{Epoch: n}, text+"  0")
		checkLetterText(t, "an epoch", impl.Letter{Epoch: n, From: alike(17), Box: make([]byte, 48)}, text+" 11111111 48")
	}
	for many := range 70 {
		from := someBytes(many)
		checkLetterText(t, "a From", impl.Letter{From: from, Box: make([]byte, 5)}, fmt.Sprintf("0 %x 5", from[:min(many, 4)]))
		checkLetterText(t, "a From with room behind", impl.Letter{From: someBytes(80)[:many]}, fmt.Sprintf("0 %x 0", someBytes(80)[:min(many, 4)]))
	}
	for _, many := range shownSizes {
		checkLetterText(t, "a Box", impl.Letter{Epoch: 3, From: alike(1), Box: make([]byte, many)}, "3 01010101 "+strconv.Itoa(many))
	}
}

// Of From the first 4 bytes count, each by itself, and of what is behind them nothing does; of Box it is only how many.
func TestWhichBytesOfALetterAreShown(t *testing.T) {
	for place := range 4 {
		seen := map[string]bool{}
		for _, x := range allBytes() {
			from := alike(85)
			from[place] = x
			text := impl.LetterText(impl.Letter{From: from})
			if seen[text] || len(text) != len("0 55555555 0") || text[2+2*place:4+2*place] != fmt.Sprintf("%02x", x) {
				t.Fatalf("byte %d at place %d: %q", x, place, text)
			}
			seen[text] = true
			checkLetterText(t, "a byte", impl.Letter{From: from[:place+1]}, "0 "+strings.Repeat("55", place)+fmt.Sprintf("%02x 0", x))
		}
	}
	l := impl.Letter{Epoch: 1, From: alike(85), Box: make([]byte, 48)}
	for place := 4; place < 32; place++ {
		checkLetterText(t, "another byte behind", impl.Letter{Epoch: 1, From: bent(l.From, place, 255), Box: l.Box}, "1 55555555 48")
	}
	for place := range 48 {
		checkLetterText(t, "another byte in the Box", impl.Letter{Epoch: 1, From: l.From, Box: bent(l.Box, place, 10)}, "1 55555555 48")
	}
}

func TestLettersThatAreWrittenAreShown(t *testing.T) {
	for i, size := range padSizes {
		for j, epoch := range []int{0, 1, 40, 255, 256, 65535} {
			secret := alike(byte(9*i + j))
			l := checkWritten(t, secret, publicPoint(t, alike(2)), epoch, someBytes(size.many))
			want := fmt.Sprintf("%d %x %d", epoch, publicPoint(t, secret)[:4], size.want+16)
			checkLetterText(t, "written", l, want)
			again, ok := impl.LetterOf(impl.LetterBytes(l))
			if !ok {
				t.Fatalf("the letter %s is not read from its bytes", want)
			}
			checkLetterText(t, "read from its bytes", again, want)
		}
	}
	none, _ := impl.Write(alike(1), make([]byte, 32), 1, nil)
	checkLetterText(t, "not written", none, "0  0")
	none, _ = impl.LetterOf([]byte("no letter"))
	checkLetterText(t, "not read", none, "0  0")
}

// No letter is refused, be it LetterOk or not.
func TestDrawnLettersAreShown(t *testing.T) {
	from := rand.New(rand.NewSource(19))
	right := 0
	for range 4000 {
		l := impl.Letter{Epoch: from.Intn(1 << 17), From: someBytes(from.Intn(40)), Box: make([]byte, from.Intn(400))}
		from.Read(l.From)
		switch from.Intn(3) {
		case 0:
			l.Epoch = int(from.Uint64())
		case 1:
			l.Epoch, l.From, l.Box = from.Intn(65536), oftenEdgy(from), make([]byte, []int{48, 112, 208, 304}[from.Intn(4)])
		}
		if impl.LetterOk(l) {
			right++
		}
		checkLetterText(t, "drawn", l, letterLine(l))
		if text := impl.LetterText(l); strings.Count(text, " ") != 2 || strings.ContainsAny(text, "\n\r\t") || strings.HasSuffix(text, " ") {
			t.Fatalf("LetterText is %q", text)
		}
	}
	if right < 200 || right > 3800 {
		t.Errorf("%d of the letters are LetterOk", right)
	}
}

func TestItemsAreShown(t *testing.T) {
	for what, c := range map[string]struct {
		x    impl.Item
		want string
	}{
		"nothing":           {impl.Item{}, " 0 0 0"},
		"empty":             {impl.Item{Bytes: []byte{}}, " 0 0 0"},
		"as the document's": {impl.Item{Route: "aa", Topic: 1, Due: 5, Bytes: []byte("x")}, "aa 1 5 1"},
		"one":               {impl.Item{Route: routeA, Topic: 2, Due: 50, Bytes: someBytes(83)}, routeA + " 2 50 83"},
		"no Route":          {impl.Item{Topic: 1, Due: 2, Bytes: someBytes(3)}, " 1 2 3"},
		"no Bytes":          {impl.Item{Route: routeB, Topic: 9, Due: 100000}, routeB + " 9 100000 0"},
		"a blank":           {impl.Item{Route: "a b", Topic: 1}, "a b 1 0 0"},
		"blanks alone":      {impl.Item{Route: "  ", Topic: 1}, "   1 0 0"},
		"a byte 10":         {impl.Item{Route: "a\nb", Topic: 1}, "a\nb 1 0 0"},
		"a byte 10 at end":  {impl.Item{Route: "\n", Topic: 1, Due: 2}, "\n 1 2 0"},
		"a byte 0":          {impl.Item{Route: "\x00", Topic: 1, Due: 2}, "\x00 1 2 0"},
		"no UTF-8":          {impl.Item{Route: "\xff\xc3", Topic: 1, Due: 2}, "\xff\xc3 1 2 0"},
		"capitals":          {impl.Item{Route: "ABCDEF", Due: 3}, "ABCDEF 0 3 0"},
		"below 0":           {impl.Item{Route: "a", Topic: -1, Due: -2, Bytes: []byte{0}}, "a -1 -2 1"},
		"one like a text":   {impl.Item{Route: "a", Bytes: []byte("1 2 3\n")}, "a 0 0 6"},
		"spare room":        {impl.Item{Route: "a", Bytes: someBytes(9)[:2]}, "a 0 0 2"},
	} {
		checkItemText(t, what, c.x, c.want)
	}
}

func TestItemsAtTheEdges(t *testing.T) {
	for n, text := range numberTexts {
		checkItemText(t, "a topic", impl.Item{Route: "a", Topic: n, Due: 8, Bytes: []byte("xyz")}, "a "+text+" 8 3")
		checkItemText(t, "a due", impl.Item{Route: "a", Topic: 8, Due: n, Bytes: []byte("xyz")}, "a 8 "+text+" 3")
		for other, otherText := range numberTexts {
			checkItemText(t, "both", impl.Item{Topic: n, Due: other}, " "+text+" "+otherText+" 0")
		}
	}
	for _, route := range slices.Concat(noRoutes, strangeNotes, oddTexts, []string{routeA, routeB, routeC, strings.Repeat("0", 16), strings.Repeat("f", 16)}) {
		checkItemText(t, "a route", impl.Item{Route: route, Topic: 1, Due: 2, Bytes: []byte("xyz")}, route+" 1 2 3")
		checkItemText(t, "a route alone", impl.Item{Route: route}, route+" 0 0 0")
	}
	for _, many := range shownSizes {
		checkItemText(t, "bytes", impl.Item{Route: routeA, Topic: 1, Due: 2, Bytes: make([]byte, many)}, routeA+" 1 2 "+strconv.Itoa(many))
	}
}

func TestItemsThatWaitAreShown(t *testing.T) {
	for _, x := range slices.Concat(fullQueue(), freeItems(10)) {
		checkItemText(t, "right", x, itemLine(x))
	}
	bad := badItems(routeA, 3)
	for _, x := range bad {
		checkItemText(t, "none", x, itemLine(x))
	}
	from := rand.New(rand.NewSource(19))
	for i := range 3000 {
		x := anyItem(from, strings.Repeat("n", i%90))
		checkItemText(t, "drawn", x, itemLine(x))
		if text := impl.ItemText(x); strings.HasSuffix(text, " ") || strings.HasSuffix(text, "\n") {
			t.Fatalf("ItemText is %q", text)
		}
	}
}

// numberedWorld has another number in each place that shows one.
func numberedWorld(time, count, known, epoch int) impl.World {
	return impl.World{Count: count, Known: known, Post: impl.Post{Time: time}, Reader: impl.Reader{Epoch: epoch}}
}

// seenWorld has these items waiting, and got these notes.
func seenWorld(queue []impl.Item, got ...string) impl.World {
	w := numberedWorld(1, 2, 3, 4)
	w.Post.Queue = queue
	for _, note := range got {
		w.Reader.Got = append(w.Reader.Got, []byte(note))
	}
	return w
}

func TestWorldsAreShown(t *testing.T) {
	checkWorldIs(t, "nothing", impl.World{}, "time 0 sent 0 known 0 epoch 0 got 0\n")
	checkWorldIs(t, "empty lists", impl.World{Post: impl.Post{Queue: []impl.Item{}}, Reader: impl.Reader{Got: [][]byte{}}}, "time 0 sent 0 known 0 epoch 0 got 0\n")
	checkWorldIs(t, "a new one", newWorld(t), "time 0 sent 0 known 0 epoch 0 got 0\n")
	checkWorldIs(t, "numbers", numberedWorld(1, 2, 3, 4), "time 1 sent 2 known 3 epoch 4 got 0\n")
	a, b := impl.Item{Route: "aa", Topic: 1, Due: 5, Bytes: []byte("x")}, impl.Item{Route: "bb", Topic: 6, Due: 7, Bytes: []byte("xy")}
	checkWorldIs(t, "one waits", seenWorld([]impl.Item{a}), "time 1 sent 2 known 3 epoch 4 got 0\n", "aa 1 5 1\n")
	checkWorldIs(t, "two wait", seenWorld([]impl.Item{a, b}), "time 1 sent 2 known 3 epoch 4 got 0\n", "aa 1 5 1\n", "bb 6 7 2\n")
	checkWorldIs(t, "two wait the other way round", seenWorld([]impl.Item{b, a}), "time 1 sent 2 known 3 epoch 4 got 0\n", "bb 6 7 2\n", "aa 1 5 1\n")
	checkWorldIs(t, "one waits twice", seenWorld([]impl.Item{a, a}), "time 1 sent 2 known 3 epoch 4 got 0\n", "aa 1 5 1\n", "aa 1 5 1\n")
	checkWorldIs(t, "zero items wait", seenWorld(make([]impl.Item, 2)), "time 1 sent 2 known 3 epoch 4 got 0\n", " 0 0 0\n", " 0 0 0\n")
	checkWorldIs(t, "one got", seenWorld(nil, "hi"), "time 1 sent 2 known 3 epoch 4 got 1\n", "hi\n")
	checkWorldIs(t, "two got", seenWorld(nil, "hi", "ho there"), "time 1 sent 2 known 3 epoch 4 got 2\n", "hi\n", "ho there\n")
	checkWorldIs(t, "got the other way round", seenWorld(nil, "ho there", "hi"), "time 1 sent 2 known 3 epoch 4 got 2\n", "ho there\n", "hi\n")
	checkWorldIs(t, "got twice", seenWorld(nil, "hi", "hi"), "time 1 sent 2 known 3 epoch 4 got 2\n", "hi\n", "hi\n")
	checkWorldIs(t, "nothing in what is got", seenWorld(nil, "", "", ""), "time 1 sent 2 known 3 epoch 4 got 3\n", "\n", "\n", "\n")
	checkWorldIs(t, "both", seenWorld([]impl.Item{a, b}, "hi", "", "ho"), "time 1 sent 2 known 3 epoch 4 got 3\n", "aa 1 5 1\n", "bb 6 7 2\n", "hi\n", "\n", "ho\n")
	checkWorldIs(t, "an item with a line of its own", seenWorld([]impl.Item{{Route: "a\n", Due: 1}}, "\n"), "time 1 sent 2 known 3 epoch 4 got 1\n", "a\n 0 1 0\n", "\n\n")
}

func TestWorldsOfDeedsAreShown(t *testing.T) {
	w := checkAllDone(t, "a note", newWorld(t), deedOf(impl.DdTick, 7), writeOf(2, 50, "hi"), deedOf(impl.DdGive, 0))
	waits := libraryKeysAt(t, alike(2), 0).route + " 2 57 83\n"
	checkWorldIs(t, "it waits", w, "time 7 sent 1 known 0 epoch 0 got 0\n", waits)
	w = checkAllDone(t, "a note", w, deedOf(impl.DdFetch, 0))
	checkWorldIs(t, "on its way", w, "time 7 sent 1 known 0 epoch 0 got 0\n")
	w = checkAllDone(t, "a note", w, deedOf(impl.DdGive, 0))
	checkWorldIs(t, "read", w, "time 7 sent 1 known 0 epoch 0 got 1\n", "hi\n")
	w = checkAllDone(t, "another", w, deedOf(impl.DdNext, 0), deedOf(impl.DdNext, 0))
	checkWorldIs(t, "at epoch 2", w, "time 7 sent 1 known 0 epoch 2 got 1\n", "hi\n")
	w = checkAllDone(t, "another", w, deedOf(impl.DdLearn, 0), deedOf(impl.DdNext, 0), writeOf(0, 0, strings.Repeat("long", 40)), deedOf(impl.DdGive, 0))
	checkWorldIs(t, "at epoch 3", w, "time 7 sent 2 known 2 epoch 3 got 1\n", libraryKeysAt(t, alike(2), 2).route+" 0 7 243\n", "hi\n")
	bad, _ := impl.Do(w, impl.Deed{})
	checkWorldIs(t, "a bad deed", bad, "time 0 sent 0 known 0 epoch 0 got 0\n")
	for what, w := range map[string]impl.World{"busy": busyWorld(t), "with room behind": roomyWorld(t), "full": fullWorld(t), "read": readWorld(t)} {
		checkWorldText(t, what, w)
	}
}

func TestNumbersOfWorlds(t *testing.T) {
	for n, text := range numberTexts {
		checkWorldIs(t, "the time", numberedWorld(n, 2, 3, 4), "time ", text, " sent 2 known 3 epoch 4 got 0\n")
		checkWorldIs(t, "how many are sent", numberedWorld(1, n, 3, 4), "time 1 sent ", text, " known 3 epoch 4 got 0\n")
		checkWorldIs(t, "what is known", numberedWorld(1, 2, n, 4), "time 1 sent 2 known ", text, " epoch 4 got 0\n")
		checkWorldIs(t, "the reader's epoch", numberedWorld(1, 2, 3, n), "time 1 sent 2 known 3 epoch ", text, " got 0\n")
		checkWorldIs(t, "all", numberedWorld(n, n, n, n), "time ", text, " sent ", text, " known ", text, " epoch ", text, " got 0\n")
		checkWorldIs(t, "an item's", seenWorld([]impl.Item{{Route: "a", Topic: n, Due: 8}, {Route: "b", Topic: 9, Due: n}}), "time 1 sent 2 known 3 epoch 4 got 0\n", "a ", text, " 8 0\nb 9 ", text, " 0\n")
	}
}

// Each note is shown as it is, wherever it stands among others.
func TestWhatIsGotIsShownAsItIs(t *testing.T) {
	for _, note := range slices.Concat(strangeNotes, oddTexts) {
		checkWorldIs(t, "alone", seenWorld(nil, note), "time 1 sent 2 known 3 epoch 4 got 1\n", note, "\n")
		checkWorldIs(t, "first, behind an item", seenWorld([]impl.Item{itemOf("aa", 1, "x")}, note, "b"), "time 1 sent 2 known 3 epoch 4 got 2\naa 1 9 1\n", note, "\nb\n")
		checkWorldIs(t, "last", seenWorld(nil, "a", note), "time 1 sent 2 known 3 epoch 4 got 2\na\n", note, "\n")
		checkWorldIs(t, "amidst", seenWorld(nil, "a", note, "b"), "time 1 sent 2 known 3 epoch 4 got 3\na\n", note, "\nb\n")
		checkWorldIs(t, "twice", seenWorld(nil, note, note), "time 1 sent 2 known 3 epoch 4 got 2\n", note, "\n", note, "\n")
	}
	for _, x := range allBytes() {
		checkWorldIs(t, "a byte", seenWorld(nil, string([]byte{x})), "time 1 sent 2 known 3 epoch 4 got 1\n", string([]byte{x, 10}))
		checkWorldIs(t, "a byte amidst", seenWorld(nil, string([]byte{'a', x, 'b'})), "time 1 sent 2 known 3 epoch 4 got 1\n", string([]byte{'a', x, 'b', 10}))
	}
	checkWorldText(t, "all of them", seenWorld(freeItems(10), strangeNotes...))
	all := string(allBytes())
	checkWorldIs(t, "all bytes", seenWorld(nil, all, all), "time 1 sent 2 known 3 epoch 4 got 2\n", all, "\n", all, "\n")
}

func TestHowManyAWorldShows(t *testing.T) {
	for _, wait := range []int{0, 1, 2, 9, 10, 11, 300} {
		for _, got := range []int{0, 1, 2, 9, 10, 19, 20, 21, 100, 1000} {
			var notes []string
			for i := range got {
				notes = append(notes, fmt.Sprint("note ", i))
			}
			w := seenWorld(freeItems(wait), notes...)
			lines := strings.Split(checkWorldText(t, "many", w), "\n")
			if len(lines) != 1+wait+got+1 || lines[0] != fmt.Sprint("time 1 sent 2 known 3 epoch 4 got ", got) || lines[len(lines)-1] != "" {
				t.Fatalf("%d wait and %d are got: %d lines, the first of which is %q", wait, got, len(lines), lines[0])
			}
			for i, line := range lines[1 : 1+wait] {
				if line != impl.ItemText(w.Post.Queue[i]) {
					t.Fatalf("line %d is %q", 1+i, line)
				}
			}
			for i, line := range lines[1+wait : 1+wait+got] {
				if line != notes[i] {
					t.Fatalf("line %d is %q", 1+wait+i, line)
				}
			}
		}
	}
}

// What a world has beside is not shown, however it changes; how many are sent is told by Count, how many are got by Got.
func TestWhatOfAWorldIsNotShown(t *testing.T) {
	busy := busyWorld(t)
	want := checkWorldText(t, "busy", busy)
	for what, change := range map[string]func(w *impl.World){
		"no Seed":                func(w *impl.World) { w.Seed = nil },
		"another Seed":           func(w *impl.World) { w.Seed = alike(9) },
		"no Net":                 func(w *impl.World) { w.Net = nil },
		"more on its way":        func(w *impl.World) { w.Net = netOf(12) },
		"nothing Sent":           func(w *impl.World) { w.Sent = nil },
		"more Sent":              func(w *impl.World) { w.Sent = sentOf(12) },
		"no Book":                func(w *impl.World) { w.Post.Book = nil },
		"another Book":           func(w *impl.World) { w.Post.Book = someBytes(500) },
		"another Sure":           func(w *impl.World) { w.Post.Sure = 1 },
		"no Seed of the reader":  func(w *impl.World) { w.Reader.Seed = nil },
		"nothing Seen":           func(w *impl.World) { w.Reader.Seen = nil },
		"more Seen":              func(w *impl.World) { w.Reader.Seen = someSeen(20) },
		"other bytes that wait":  func(w *impl.World) { w.Post.Queue[0].Bytes = make([]byte, len(w.Post.Queue[0].Bytes)) },
		"more room in each list": func(w *impl.World) { w.Reader.Got = append(make([][]byte, 0, 20), w.Reader.Got...) },
	} {
		w := clonedWorld(busy)
		change(&w)
		if got := checkWorldText(t, what, w); got != want {
			t.Errorf("%s: %q, want %q", what, got, want)
		}
	}
}

// No world is refused, and none of its parts is.
func TestWorldsThatAreNoneAreShown(t *testing.T) {
	busy := busyWorld(t)
	for what, spoil := range worldFaults(t) {
		w := clonedWorld(busy)
		spoil(&w)
		checkWorldText(t, what, w)
	}
	checkWorldText(t, "items that are none", seenWorld(badItems(routeA, 3), "a", "b"))
	checkWorldText(t, "too many of all", seenWorld(freeItems(2000), strangeNotes...))
	for what, wire := range wrongWires(t) {
		checkWorldText(t, what, worldWith(busy, wire))
	}
	for what, sent := range wrongSent() {
		w := clonedWorld(busy)
		w.Sent = []impl.Sent{sent}
		checkWorldText(t, what, w)
	}
	none, _ := impl.WorldNew(nil, nil)
	checkWorldIs(t, "no world", none, "time 0 sent 0 known 0 epoch 0 got 0\n")
	long := strings.Repeat("0123456789", 100000)
	checkWorldIs(t, "long ones", seenWorld([]impl.Item{{Route: long}}, long, long), "time 1 sent 2 known 3 epoch 4 got 2\n", long, " 0 0 0\n", long, "\n", long, "\n")
}

// Promise 19: behind each deed, whatever it is, what is shown ends with its line.
func TestWhateverIsDoneIsShownToItsEnd(t *testing.T) {
	from := rand.New(rand.NewSource(19))
	kinds, waits, got := map[int]int{}, map[int]int{}, map[int]int{}
	for range 60 {
		w, ok := impl.WorldNew(oftenEdgy(from), oftenEdgy(from))
		if !ok {
			t.Fatal("there is no new world")
		}
		for range 100 {
			d := drawnDeed(from, w)
			if d.Kind == impl.DdWrite && from.Intn(2) == 0 {
				d.Note = []byte(strangeNotes[from.Intn(len(strangeNotes)-3)])
			}
			after, code := impl.Do(w, d)
			if checkWorldText(t, "behind "+shownDeed(d), after); code == impl.CdBad {
				continue
			}
			if code == impl.CdDone {
				kinds[d.Kind]++
			}
			w = after
			waits[len(w.Post.Queue)]++
			got[len(w.Reader.Got)]++
		}
		var lines []string
		for _, x := range w.Sent {
			if l, ok := impl.LetterOf(x.Bytes); ok {
				checkLetterText(t, "sent", l, fmt.Sprintf("%d %x %d", x.Epoch, x.Bytes[3:7], paddedSize(len(x.Note))+16))
				lines = append(lines, impl.LetterText(l))
			}
		}
		if len(lines) != w.Count {
			t.Fatalf("%d letters are shown of %d", len(lines), w.Count)
		}
	}
	for kind := impl.DdWrite; kind <= impl.DdLearn; kind++ {
		if kinds[kind] < 25 {
			t.Errorf("kind %d is done %d times only", kind, kinds[kind])
		}
	}
	for many := range 4 {
		if waits[many] < 50 || got[many] < 50 {
			t.Errorf("%d wait %d times only, or are got %d times only", many, waits[many], got[many])
		}
	}
}

func TestDrawnWorldsAreShown(t *testing.T) {
	from := rand.New(rand.NewSource(91))
	number := func() int { return int(from.Uint64() >> from.Intn(64)) }
	for range 1500 {
		w := numberedWorld(number(), -number(), number(), -number())
		for range from.Intn(15) {
			w.Post.Queue = append(w.Post.Queue, impl.Item{Route: strangeNotes[from.Intn(len(strangeNotes))], Topic: number(), Due: -number(), Bytes: make([]byte, from.Intn(200))})
		}
		for range from.Intn(25) {
			note := make([]byte, from.Intn(30))
			from.Read(note)
			w.Reader.Got = append(w.Reader.Got, note)
		}
		checkWorldText(t, "drawn", w)
	}
}

// showAsks are all that is shown of a world, and of letters of its bytes.
func showAsks(w impl.World) map[string]func() string {
	asks := map[string]func() string{"WorldText": func() string { return impl.WorldText(w) }}
	for i, x := range w.Post.Queue {
		asks[fmt.Sprint("ItemText ", i)] = func() string { return impl.ItemText(x) }
	}
	for i, list := range listsOf(&w) {
		b := *list
		asks[fmt.Sprint("LetterText ", i)] = func() string { return impl.LetterText(impl.Letter{Epoch: i, From: b, Box: b}) }
	}
	return asks
}

func TestWhatIsShownLeavesItsArgumentsAlone(t *testing.T) {
	w := roomyWorld(t)
	// Behind each list there is room, in which others stand.
	queue, got := append(w.Post.Queue, fullQueue()...), append(w.Reader.Got, someSeen(7)...)
	net, sent, seen := append(w.Net, netOf(7)...), append(w.Sent, sentOf(9)...), append(w.Reader.Seen, someSeen(5)...)
	wide := w
	wide.Post.Queue, wide.Reader.Got, wide.Net, wide.Sent, wide.Reader.Seen = queue, got, net, sent, seen
	kept := clonedWorld(wide)
	var rooms, roomsKept [][]byte
	for _, list := range listsOf(&w) {
		whole := append(*list, bytes.Repeat([]byte{165}, cap(*list)-len(*list))...)
		rooms, roomsKept = append(rooms, whole), append(roomsKept, bytes.Clone(whole))
	}
	for _, ask := range showAsks(w) {
		ask()
	}
	if !sameWorld(wide, kept) || !sameLists(rooms, roomsKept) {
		t.Errorf("what was given turned into %s", shownWorld(wide))
	}
}

// What is given may be written over behind a call: what was shown stays as it was.
func TestAWorldThatChangesBehindWhatIsShown(t *testing.T) {
	w := roomyWorld(t)
	got, kept := map[string]string{}, map[string]string{}
	for name, ask := range showAsks(w) {
		got[name] = ask()
		kept[name] = strings.Clone(got[name])
	}
	writeOverWorld(w)
	for name, text := range got {
		if text != kept[name] {
			t.Errorf("%s turned into %q, want %q", name, text, kept[name])
		}
	}
	checkWorldText(t, "written over", w)
}

func TestWhatIsShownToManyAtATime(t *testing.T) {
	w := roomyWorld(t)
	asks, want := showAsks(w), map[string]string{}
	for name, ask := range asks {
		want[name] = ask()
	}
	var all sync.WaitGroup
	for range 8 {
		all.Go(func() {
			for range 20 {
				for name, ask := range asks {
					if got := ask(); got != want[name] {
						t.Errorf("%s is %q, want %q", name, got, want[name])
					}
				}
			}
		})
	}
	all.Wait()
}

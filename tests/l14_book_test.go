package tests

import (
	"bytes"
	"encoding/binary"
	"encoding/hex"
	"fmt"
	"math"
	"math/rand"
	"slices"
	"strings"
	"sync"
	"testing"

	"loop.example/g00473/impl"
)

func putLine(x impl.Item) impl.Line {
	return impl.Line{Kind: impl.BkPut, Route: x.Route, Topic: x.Topic, Due: x.Due, Bytes: x.Bytes}
}

func takeLine(route string) impl.Line { return impl.Line{Kind: impl.BkTake, Route: route} }

func timeLine(due int) impl.Line { return impl.Line{Kind: impl.BkTime, Due: due} }

func itemOfLine(l impl.Line) impl.Item {
	return impl.Item{Route: l.Route, Topic: l.Topic, Due: l.Due, Bytes: l.Bytes}
}

func sameLine(a, b impl.Line) bool { return a.Kind == b.Kind && sameItem(itemOfLine(a), itemOfLine(b)) }

func shownLine(l impl.Line) string { return fmt.Sprint(l.Kind, shown(itemOfLine(l))) }

// lineFits is LineOk once more.
func lineFits(l impl.Line) bool {
	alone := l.Topic == 0 && len(l.Bytes) == 0
	switch l.Kind {
	case 1:
		return itemFits(itemOfLine(l))
	case 2:
		return itemFits(impl.Item{Route: l.Route}) && alone && l.Due == 0
	case 3:
		return l.Route == "" && alone && 0 <= l.Due && l.Due <= 100000
	}
	return false
}

// lineBytesBy is LineBytes once more, by the library's numbers and signs.
func lineBytesBy(l impl.Line) []byte {
	if !lineFits(l) {
		return nil
	}
	route, _ := hex.DecodeString(l.Route)
	b := append([]byte{byte(l.Kind)}, append(route, make([]byte, 8-len(route))...)...)
	b = binary.BigEndian.AppendUint32(append(b, byte(l.Topic)), uint32(l.Due))
	b = append(binary.BigEndian.AppendUint16(b, uint16(len(l.Bytes))), l.Bytes...)
	return binary.BigEndian.AppendUint16(b, uint16(len(b)))
}

// lineOfBy is LineOf once more, by what each part may be; next is 0 where there is no line.
func lineOfBy(b []byte, at int) (l impl.Line, next int) {
	if at < 0 || at >= len(b) || len(b)-at < 18 {
		return impl.Line{}, 0
	}
	rest := b[at:]
	many := int(binary.BigEndian.Uint16(rest[14:16]))
	if len(rest) < 18+many || int(binary.BigEndian.Uint16(rest[16+many:])) != 16+many {
		return impl.Line{}, 0
	}
	l = impl.Line{Kind: int(rest[0]), Route: hex.EncodeToString(rest[1:9]), Topic: int(rest[9]), Due: int(binary.BigEndian.Uint32(rest[10:14])), Bytes: rest[16 : 16+many]}
	if l.Kind == 3 && bytes.Equal(rest[1:9], make([]byte, 8)) {
		l.Route = ""
	}
	if !lineFits(l) {
		return impl.Line{}, 0
	}
	return l, at + 18 + many
}

// played is what waits and the time behind some lines, by lists alone.
func played(lines []impl.Line) ([]impl.Item, int) {
	var q []impl.Item
	time := 0
	for _, l := range lines {
		switch l.Kind {
		case 1:
			q, _ = putBy(q, itemOfLine(l))
		case 2:
			_, q = takeBy(q, l.Route)
		case 3:
			time = max(time, l.Due)
			q = slices.DeleteFunc(slices.Clone(q), func(x impl.Item) bool { return x.Due < time })
		}
	}
	return q, time
}

// bookOf is the lines as bytes, one behind the other, and the places at which each begins, and where the last one ends.
func bookOf(t *testing.T, lines ...impl.Line) ([]byte, []int) {
	t.Helper()
	var b []byte
	places := []int{0}
	for _, l := range lines {
		one := impl.LineBytes(l)
		if len(one) == 0 {
			t.Fatalf("there is no line of %s", shownLine(l))
		}
		b = append(b, one...)
		places = append(places, len(b))
	}
	return b, places
}

func checkLineOk(t *testing.T, what string, l impl.Line, want bool) {
	t.Helper()
	if got := impl.LineOk(l); got != want {
		t.Fatalf("%s: LineOk(%s) = %t", what, shownLine(l), got)
	}
	b := impl.LineBytes(l)
	if by := lineBytesBy(l); !bytes.Equal(b, by) || (len(b) > 0) != want {
		t.Fatalf("%s: LineBytes(%s) = %.60x, want %.60x", what, shownLine(l), b, by)
	}
	if !want {
		return
	}
	if got, next, ok := impl.LineOf(b, 0); !ok || next != len(b) || !sameLine(got, l) {
		t.Fatalf("%s: LineOf(%.60x, 0) = %s, %d, %t, want %s", what, b, shownLine(got), next, ok, shownLine(l))
	}
}

func checkNoLine(t *testing.T, what string, b []byte, at int) {
	t.Helper()
	if l, next, ok := impl.LineOf(b, at); ok || next != 0 || !sameLine(l, impl.Line{}) {
		t.Fatalf("%s: LineOf(%.60x of %d bytes, %d) = %s, %d, %t, want zero, 0 and false", what, b, len(b), at, shownLine(l), next, ok)
	}
}

func checkLineOf(t *testing.T, what string, b []byte, at int) {
	t.Helper()
	want, end := lineOfBy(b, at)
	if end == 0 {
		checkNoLine(t, what, b, at)
		return
	}
	if l, next, ok := impl.LineOf(b, at); !ok || next != end || !sameLine(l, want) {
		t.Fatalf("%s: LineOf(%.60x, %d) = %s, %d, %t, want %s, %d, true", what, b, at, shownLine(l), next, ok, shownLine(want), end)
	}
}

func checkPlay(t *testing.T, what string, b []byte, want []impl.Item, time int, many int) {
	t.Helper()
	q, now, used := impl.Play(b)
	if !sameItems(q, want) || now != time || used != many {
		t.Fatalf("%s: Play of %d bytes = %s, %d, %d, want %s, %d, %d", what, len(b), shown(q...), now, used, shown(want...), time, many)
	}
}

// checkPlayed holds Play of bytes of which the lines that are told take the first many.
func checkPlayed(t *testing.T, what string, b []byte, lines []impl.Line, many int) {
	t.Helper()
	q, time := played(lines)
	checkPlay(t, what, b, q, time, many)
}

// someLines are a book in which each kind does something, and some do nothing.
func someLines() []impl.Line {
	a1, b1, a0 := itemOf(routeA, 1, "a1"), dueAt(itemOf(routeB, 1, "b1"), 3), dueAt(itemOf(routeA, 0, ""), 40)
	return []impl.Line{
		putLine(a1), putLine(b1), timeLine(2), putLine(a0), takeLine(routeC), timeLine(1), putLine(dueAt(itemOf(routeC, 9, "c9"), impl.MaxTime)),
		putLine(dueAt(itemOf(routeA, 1, "anew"), 30)), timeLine(4), takeLine(routeA), putLine(itemOf(routeB, 0, string(someBytes(300)))), timeLine(4), timeLine(10), takeLine(routeC),
	}
}

func TestLineBytesThatAreWrittenDown(t *testing.T) {
	for _, c := range []struct {
		l    impl.Line
		want string
	}{
		{putLine(impl.Item{Route: routeA, Topic: 2, Due: 9, Bytes: []byte("hi")}), "01" + "00000000000000aa" + "02" + "00000009" + "0002" + "6869" + "0012"},
		{putLine(impl.Item{Route: routeC, Topic: 9, Due: impl.MaxTime}), "01" + "fedcba9876543210" + "09" + "000186a0" + "0000" + "0010"},
		{putLine(impl.Item{Route: routeC, Bytes: []byte{1, 0, 255}}), "01" + "fedcba9876543210" + "00" + "00000000" + "0003" + "0100ff" + "0013"},
		{putLine(impl.Item{Route: routeA, Due: 256, Bytes: make([]byte, 240)}), "01" + "00000000000000aa" + "00" + "00000100" + "00f0" + strings.Repeat("00", 240) + "0100"},
		{takeLine(routeC), "02" + "fedcba9876543210" + "00" + "00000000" + "0000" + "0010"},
		{takeLine("0000000000000000"), "02" + "0000000000000000" + "00" + "00000000" + "0000" + "0010"},
		{timeLine(0), "03" + "0000000000000000" + "00" + "00000000" + "0000" + "0010"},
		{timeLine(65537), "03" + "0000000000000000" + "00" + "00010001" + "0000" + "0010"},
		{timeLine(impl.MaxTime), "03" + "0000000000000000" + "00" + "000186a0" + "0000" + "0010"},
	} {
		checkLineOk(t, "written down", c.l, true)
		if got := hex.EncodeToString(impl.LineBytes(c.l)); got != c.want {
			t.Errorf("LineBytes(%s) = %s, want %s", shownLine(c.l), got, c.want)
		}
	}
}

func TestTheKindsOfLines(t *testing.T) {
	full := impl.Line{Route: routeA, Topic: 1, Due: 1, Bytes: []byte("x")}
	take, time := takeLine(routeA), timeLine(1)
	for _, kind := range []int{math.MinInt, -255, -254, -1, 0, 1, 2, 3, 4, 5, 255, 256, 257, 258, 259, 1<<32 + 1, math.MaxInt} {
		full.Kind, take.Kind, time.Kind = kind, kind, kind
		checkLineOk(t, "an item", full, kind == impl.BkPut)
		checkLineOk(t, "a route", take, kind == impl.BkPut || kind == impl.BkTake)
		checkLineOk(t, "a time", time, kind == impl.BkTime)
		checkLineOk(t, "a kind alone", impl.Line{Kind: kind}, kind == impl.BkTime)
	}
}

func TestLinesThatPut(t *testing.T) {
	for _, route := range []string{routeA, routeC} {
		for _, topic := range []int{0, 1, 9} {
			for _, due := range dueEdges {
				for _, many := range append(bytesEdges, 239, 240, 255, 256, 257, 511, 512, 1500) {
					checkLineOk(t, "an item", putLine(impl.Item{Route: route, Topic: topic, Due: due, Bytes: someBytes(many)}), true)
				}
			}
			for _, bad := range append(badItems(route, topic), impl.Item{}) {
				checkLineOk(t, "no item", putLine(bad), false)
			}
		}
	}
	for many := range 1700 {
		checkLineOk(t, "so many bytes", putLine(itemOf(routeB, 0, string(make([]byte, many)))), many <= 1560)
	}
}

func TestLinesThatTake(t *testing.T) {
	for _, route := range []string{routeA, routeB, routeC, strings.Repeat("0", 16), strings.Repeat("f", 16)} {
		checkLineOk(t, "a route", takeLine(route), true)
		checkLineOk(t, "no bytes", impl.Line{Kind: impl.BkTake, Route: route, Bytes: []byte{}}, true)
		for _, n := range []int{1, 9, 10, -1, 256, 1 << 32, math.MaxInt, math.MinInt} {
			checkLineOk(t, "a topic", impl.Line{Kind: impl.BkTake, Route: route, Topic: n}, false)
			checkLineOk(t, "a due", impl.Line{Kind: impl.BkTake, Route: route, Due: n}, false)
		}
		for _, many := range []int{1, 2, 256, mostBytes, mostBytes + 1, 65536} {
			checkLineOk(t, "bytes", impl.Line{Kind: impl.BkTake, Route: route, Bytes: make([]byte, many)}, false)
		}
	}
	for _, route := range noRoutes {
		checkLineOk(t, "no route", takeLine(route), false)
	}
}

func TestLinesThatTellTheTime(t *testing.T) {
	for _, due := range dueEdges {
		checkLineOk(t, "a time", timeLine(due), true)
		checkLineOk(t, "no bytes", impl.Line{Kind: impl.BkTime, Due: due, Bytes: []byte{}}, true)
		for _, n := range []int{1, 9, 10, -1, 256, 1 << 32, math.MaxInt, math.MinInt} {
			checkLineOk(t, "a topic", impl.Line{Kind: impl.BkTime, Due: due, Topic: n}, false)
		}
		for _, route := range append(noRoutes[1:], routeA, routeC, strings.Repeat("0", 16)) {
			checkLineOk(t, "a route", impl.Line{Kind: impl.BkTime, Due: due, Route: route}, false)
		}
		for _, many := range []int{1, 2, 256, mostBytes, 65536} {
			checkLineOk(t, "bytes", impl.Line{Kind: impl.BkTime, Due: due, Bytes: make([]byte, many)}, false)
		}
	}
	for _, due := range noDues {
		checkLineOk(t, "no time", timeLine(due), false)
	}
}

func TestLinesOneBehindTheOther(t *testing.T) {
	lines := someLines()
	b, places := bookOf(t, lines...)
	for i, l := range lines {
		got, next, ok := impl.LineOf(b, places[i])
		if !ok || next != places[i+1] || !sameLine(got, l) {
			t.Fatalf("LineOf at %d = %s, %d, %t, want %s, %d, true", places[i], shownLine(got), next, ok, shownLine(l), places[i+1])
		}
	}
	for at := -20; at <= len(b)+20; at++ {
		checkLineOf(t, "at any place", b, at)
		if !slices.Contains(places[:len(lines)], at) {
			checkNoLine(t, "between", b, at)
		}
	}
}

func TestLinesAtNoPlace(t *testing.T) {
	b, _ := bookOf(t, someLines()...)
	one := impl.LineBytes(timeLine(0))
	for _, c := range [][]byte{nil, {}, {1}, b, one, make([]byte, 17), make([]byte, 18), make([]byte, 5000), bytes.Repeat([]byte{1}, 5000), bytes.Repeat([]byte{255}, 70000)} {
		for _, at := range []int{-1, -2, -18, -len(c), len(c), len(c) + 1, len(c) - 1, len(c) - 17, math.MinInt, math.MinInt + 18, math.MaxInt, math.MaxInt - 1, math.MaxInt - 18, 1 << 32, -1 << 32} {
			checkNoLine(t, "at no place", c, at)
		}
	}
	checkNoLine(t, "one byte behind its beginning", append(slices.Clone(one), one...), 1)
}

// turnedCounts are lines in which one of the two counts says something else.
func turnedCounts(l impl.Line) [][]byte {
	var list [][]byte
	b := lineBytesBy(l)
	for _, place := range []int{14, len(b) - 2} {
		right := int(binary.BigEndian.Uint16(b[place:]))
		for _, wrong := range []int{right - 1, right + 1, right + 2, right + 16, right + 18, right ^ 256, 0, 65535, 1561, 32768} {
			if wrong&65535 != right {
				turned := bytes.Clone(b)
				binary.BigEndian.PutUint16(turned[place:], uint16(wrong))
				list = append(list, turned)
			}
		}
	}
	return list
}

func TestLinesWhoseCountsAreOthers(t *testing.T) {
	tail := impl.LineBytes(timeLine(7))
	for _, l := range []impl.Line{putLine(itemOf(routeA, 2, "hi")), putLine(impl.Item{Route: routeC}), putLine(itemOf(routeA, 2, string(someBytes(300)))), putLine(itemOf(routeA, 0, string(make([]byte, mostBytes)))), takeLine(routeB), timeLine(5)} {
		ahead := impl.LineBytes(putLine(itemOf(routeB, 3, "ahead")))
		for _, turned := range turnedCounts(l) {
			checkNoLine(t, "a count is another one", turned, 0)
			checkNoLine(t, "a count is another one, and more is there", slices.Concat(turned, tail, tail), 0)
			checkPlay(t, "a count is another one", slices.Concat(ahead, turned, tail), []impl.Item{itemOf(routeB, 3, "ahead")}, 0, len(ahead))
		}
	}
}

// The counts and what they count agree, but there is more than an item has.
func TestLinesOfTooManyBytes(t *testing.T) {
	for _, kind := range []byte{1, 2, 3} {
		for many, want := range map[int]bool{0: true, 1: kind == 1, mostBytes: kind == 1, mostBytes + 1: false, 65519: false, 65535: false} {
			b := append([]byte{kind}, make([]byte, 13)...)
			b = append(binary.BigEndian.AppendUint16(b, uint16(many)), make([]byte, many)...)
			b = binary.BigEndian.AppendUint16(b, uint16(len(b)))
			if _, next, ok := impl.LineOf(b, 0); ok != want || ok && next != len(b) {
				t.Errorf("LineOf of kind %d with %d bytes is %d, %t", kind, many, next, ok)
			}
			if !want {
				checkNoLine(t, "too many bytes", b, 0)
			}
		}
	}
}

// Each byte of a line is turned into each other one: it is no line then, but where it is one of another item, route or time.
func TestLinesOfWhichAByteIsAnother(t *testing.T) {
	for _, l := range []impl.Line{putLine(dueAt(itemOf(routeC, 9, "hi"), impl.MaxTime)), takeLine(routeC), takeLine(strings.Repeat("0", 16)), timeLine(0), timeLine(impl.MaxTime)} {
		b := impl.LineBytes(l)
		for place := range b {
			for mask := 1; mask < 256; mask++ {
				turned := bent(b, place, byte(mask))
				checkLineOf(t, "a byte is another", turned, 0)
				got, _, ok := impl.LineOf(turned, 0)
				count := place >= len(b)-2 || place == 14 || place == 15
				noRoom := l.Kind == impl.BkTake && place > 8 || l.Kind == impl.BkTime && place > 0 && place < 10
				if ok && (count || noRoom) {
					t.Fatalf("byte %d of %s is %d, and it is read as %s", place, shownLine(l), turned[place], shownLine(got))
				}
				if ok && !bytes.Equal(impl.LineBytes(got), turned) {
					t.Fatalf("LineOf(%x) = %s, whose bytes are others", turned, shownLine(got))
				}
			}
		}
	}
}

// A time with the bytes of a route where it has none.
func TestTimesWithARoute(t *testing.T) {
	now := impl.LineBytes(timeLine(5))
	b := slices.Concat(now, now)
	for place := 1; place < 9; place++ {
		for _, mask := range []byte{1, 16, 128, 255, '0'} {
			checkNoLine(t, "a time with a route", bent(now, place, mask), 0)
			checkPlay(t, "a time with a route", bent(b, place, mask), nil, 0, 0)
			checkPlay(t, "a time with a route behind another", bent(b, 18+place, mask), nil, 5, 18)
		}
	}
}

func TestLineOfAnyBytes(t *testing.T) {
	from := rand.New(rand.NewSource(14))
	for range 20000 {
		b := make([]byte, from.Intn(60))
		from.Read(b)
		if len(b) > 20 && from.Intn(2) == 0 {
			copy(b, []byte{byte(from.Intn(5))})
			copy(b[9:], []byte{byte(from.Intn(12)), 0, byte(from.Intn(2)), 0, 0, 0, byte(len(b) - 18)})
			copy(b[len(b)-2:], []byte{0, byte(len(b) - 2)})
		}
		checkLineOf(t, "any bytes", b, from.Intn(3)*from.Intn(3))
		impl.Play(b)
	}
}

func TestPlayStepByStep(t *testing.T) {
	a1, b1, c1 := dueAt(itemOf(routeA, 1, "a1"), 9), dueAt(itemOf(routeB, 1, "b1"), 4), dueAt(itemOf(routeC, 1, "c1"), 5)
	newA1, late := dueAt(itemOf(routeA, 1, "new"), 6), dueAt(itemOf(routeB, 2, "late"), 1)
	var book []byte
	checkPlay(t, "nothing", book, nil, 0, 0)
	for _, step := range []struct {
		what string
		l    impl.Line
		want []impl.Item
		time int
	}{
		{"a put", putLine(a1), []impl.Item{a1}, 0},
		{"another put", putLine(b1), []impl.Item{a1, b1}, 0},
		{"a third put", putLine(c1), []impl.Item{a1, b1, c1}, 0},
		{"time 0", timeLine(0), []impl.Item{a1, b1, c1}, 0},
		{"a time at which all are due", timeLine(4), []impl.Item{a1, b1, c1}, 4},
		{"a time that is over", timeLine(3), []impl.Item{a1, b1, c1}, 4},
		{"the time itself", timeLine(4), []impl.Item{a1, b1, c1}, 4},
		{"a topic anew", putLine(newA1), []impl.Item{b1, c1, newA1}, 4},
		{"one more", timeLine(5), []impl.Item{c1, newA1}, 5},
		{"a route for which nothing waits", takeLine(routeB), []impl.Item{c1, newA1}, 5},
		{"a put that is too late, as the book has it", putLine(late), []impl.Item{c1, newA1, late}, 5},
		{"a take", takeLine(routeC), []impl.Item{newA1, late}, 5},
		{"the time itself, with one that is too late", timeLine(5), []impl.Item{newA1}, 5},
		{"the last one of a route", takeLine(routeA), nil, 5},
		{"a take of nothing", takeLine(routeA), nil, 5},
		{"the last time there is", timeLine(impl.MaxTime), nil, impl.MaxTime},
		{"a time that is over, at the end", timeLine(0), nil, impl.MaxTime},
	} {
		book = append(book, impl.LineBytes(step.l)...)
		checkPlay(t, step.what, book, step.want, step.time, len(book))
	}
}

// Behind a time that is less, the time is what it was, and what is too late by that goes.
func TestPlayOfATimeThatIsLess(t *testing.T) {
	late, due := dueAt(itemOf(routeA, 1, "late"), 3), dueAt(itemOf(routeA, 2, "due"), 5)
	for less := range 5 {
		b, _ := bookOf(t, timeLine(5), putLine(late), putLine(due), timeLine(less))
		checkPlay(t, "a time that is less", b, []impl.Item{due}, 5, len(b))
	}
}

func TestPlayTakesTheFirstOfARoute(t *testing.T) {
	first, other, second := itemOf(routeA, 0, "first"), itemOf(routeB, 0, "other"), itemOf(routeA, 0, "second")
	b, _ := bookOf(t, putLine(first), putLine(other), putLine(second), takeLine(routeA))
	checkPlay(t, "the first one is taken", b, []impl.Item{other, second}, 0, len(b))
}

// A put for which there is no room is a line as any other: what stands behind it is played.
func TestPlayOfAPutThatIsFalse(t *testing.T) {
	var lines []impl.Line
	full := fullQueue()
	for _, x := range full {
		lines = append(lines, putLine(x))
	}
	eleventh := itemOf(routeC, 5, "no room")
	b, _ := bookOf(t, append(lines, putLine(eleventh))...)
	checkPlay(t, "an eleventh one", b, full, 0, len(b))
	b, _ = bookOf(t, append(lines, putLine(eleventh), takeLine(routeA), putLine(eleventh), timeLine(9))...)
	checkPlay(t, "an eleventh one, and once more where there is room", b, append(full[1:], eleventh), 9, len(b))
	one := putLine(itemOf(routeA, 0, "one"))
	b, _ = bookOf(t, one, one, one, one, one, one, takeLine(routeA))
	checkPlay(t, "six of one route", b, slices.Repeat([]impl.Item{itemOf(routeA, 0, "one")}, 3), 0, len(b))
}

// Promise 14: wherever a book is cut, it tells what the whole lines ahead of the cut say, and no more.
func TestWhatIsTornIsLeftAway(t *testing.T) {
	lines := someLines()
	b, places := bookOf(t, lines...)
	whole := 0
	for cut := range len(b) + 1 {
		if cut == places[whole+1] {
			whole++
		}
		checkPlayed(t, "cut", b[:cut:cut], lines[:whole], places[whole])
		checkPlayed(t, "cut, with the rest in the room behind it", b[:cut], lines[:whole], places[whole])
		if whole == len(lines) {
			break
		}
		checkNoLine(t, "what is torn", b[:cut], places[whole])
	}
}

// Promise 14 likewise where the end is not missing, but wrong: what stands behind it is not told either.
func TestPlayEndsAheadOfWhatIsNoLine(t *testing.T) {
	lines := someLines()
	b, places := bookOf(t, lines...)
	for _, junk := range [][]byte{{0}, {1}, {255}, make([]byte, 16), make([]byte, 18), make([]byte, 100), bytes.Repeat([]byte{255}, 100), b[1:40], b[:17], bent(b, 17, 1)[:18]} {
		for i, place := range places {
			checkPlayed(t, "what is no line, between", slices.Concat(b[:place], junk, b[place:]), lines[:i], place)
		}
	}
	for i := range lines {
		for at := places[i]; at < places[i+1]; at++ {
			turned := bent(b, at, 128)
			if _, _, ok := impl.LineOf(turned, places[i]); !ok {
				checkPlayed(t, "a byte is another", turned, lines[:i], places[i])
			}
		}
		checkPlayed(t, "a byte is missing", slices.Concat(b[:places[i]], b[places[i]+1:]), lines[:i], places[i])
		checkPlayed(t, "the last byte is missing", slices.Concat(b[:places[i+1]-1], b[places[i+1]:]), lines[:i], places[i])
	}
}

// A book that is longer than a post may have is played too: the chapter asks for no limit there.
func TestPlayOfALongBook(t *testing.T) {
	var b []byte
	for i := range 3000 {
		b = append(b, impl.LineBytes(putLine(dueAt(itemOf(routeA, 1, fmt.Sprint(i)), impl.MaxTime)))...)
		b = append(b, impl.LineBytes(timeLine(i))...)
	}
	checkPlay(t, "a long book", b, []impl.Item{dueAt(itemOf(routeA, 1, "2999"), impl.MaxTime)}, 2999, len(b))
}

// anyLine is often right, and of few routes, topics and times.
func anyLine(from *rand.Rand, note string) impl.Line {
	switch from.Intn(7) {
	case 0:
		return takeLine([]string{routeA, routeB, routeC}[from.Intn(3)])
	case 1:
		return timeLine(from.Intn(7))
	}
	return putLine(anyItem(from, note))
}

func TestBooksAgainstLists(t *testing.T) {
	from := rand.New(rand.NewSource(1414))
	for range 1000 {
		var lines []impl.Line
		var b []byte
		for i := range from.Intn(60) {
			l := anyLine(from, fmt.Sprint(i))
			checkLineOk(t, "any line", l, lineFits(l))
			if lineFits(l) {
				lines = append(lines, l)
			}
			// What is no line has no bytes: the book does not tell of it.
			b = append(b, impl.LineBytes(l)...)
		}
		checkPlayed(t, "any book", b, lines, len(b))
		checkPlayed(t, "any book, with something behind it", append(b, 1, 2, 3), lines, len(b))
	}
}

// What a queue does step by step, a book that has the steps tells again.
func TestABookTellsWhatTheQueueDid(t *testing.T) {
	from := rand.New(rand.NewSource(141414))
	for range 100 {
		var q []impl.Item
		var b []byte
		now := 0
		for i := range 60 {
			l := anyLine(from, fmt.Sprint(i))
			switch l.Kind {
			case impl.BkPut:
				q, _ = impl.Put(q, itemOfLine(l))
			case impl.BkTake:
				_, q, _ = impl.Take(q, l.Route)
			case impl.BkTime:
				l.Due, now = now+l.Due, now+l.Due
				q = impl.Due(q, now)
			}
			b = append(b, impl.LineBytes(l)...)
			checkPlay(t, "step by step", b, q, now, len(b))
		}
	}
}

func TestBooksAnswerAnewEachTime(t *testing.T) {
	l := putLine(itemOf(routeA, 2, "hi"))
	checkAnew(t, "LineBytes", func() []byte { return impl.LineBytes(l) })
	b, places := bookOf(t, someLines()...)
	kept := bytes.Clone(b)
	for _, place := range places[:2] {
		checkAnew(t, "LineOf", func() []byte {
			got, _, _ := impl.LineOf(b, place)
			return got.Bytes
		})
	}
	want, _, _ := impl.Play(b)
	want = clonedItems(want)
	got, _, _ := impl.Play(b)
	writeOver(got)
	if again, _, _ := impl.Play(b); !sameItems(again, want) || len(want) == 0 {
		t.Errorf("Play, asked again, = %s, want %s", shown(again...), shown(want...))
	}
	if !bytes.Equal(b, kept) || string(l.Bytes) != "hi" {
		t.Errorf("what was given turned into %x, %s", b, shownLine(l))
	}
	for i, x := range want {
		for _, y := range want[:i] {
			checkApart(t, "Play", x.Bytes, y.Bytes)
		}
	}
}

// What is given may be written over behind a call: what was answered stays as it was.
func TestABookThatChangesBehindACall(t *testing.T) {
	for _, lines := range [][]impl.Line{{putLine(itemOf(routeA, 2, "hi"))}, someLines()[:4], someLines()} {
		b, _ := bookOf(t, lines...)
		l, _, _ := impl.LineOf(b, 0)
		q, _, _ := impl.Play(b)
		wantLine, want := lines[0], clonedItems(q)
		told := impl.LineBytes(lines[0])
		toldWas := bytes.Clone(told)
		clear(b)
		if !sameLine(l, wantLine) || !sameItems(q, want) {
			t.Errorf("answers turned into %s and %s", shownLine(l), shown(q...))
		}
		clear(lines[0].Bytes)
		if !bytes.Equal(told, toldWas) {
			t.Errorf("LineBytes turned into %x", told)
		}
	}
}

func TestBooksLeaveTheirArgumentsAlone(t *testing.T) {
	b, places := bookOf(t, someLines()...)
	kept := bytes.Clone(b)
	for at := -1; at <= len(b)+1; at++ {
		impl.LineOf(b, at)
	}
	for _, place := range places {
		impl.Play(b[:place])
		impl.LineOf(b[:place], 0)
		impl.Play(b[place/2 : place])
	}
	// Behind the bytes of the line there is room, in which others stand.
	room := someBytes(40)
	for _, kind := range []int{0, 1, 2, 3, 4} {
		l := impl.Line{Kind: kind, Route: routeA, Bytes: room[10:20]}
		impl.LineOk(l)
		impl.LineBytes(l)
	}
	if !bytes.Equal(b, kept) || !bytes.Equal(room, someBytes(40)) {
		t.Errorf("what was given turned into %x, %x", b, room)
	}
}

func TestBooksOfManyAtATime(t *testing.T) {
	lines := someLines()
	b, places := bookOf(t, lines...)
	want, time := played(lines)
	var all sync.WaitGroup
	for range 16 {
		all.Go(func() {
			for range 30 {
				if q, now, used := impl.Play(b); !sameItems(q, want) || now != time || used != len(b) {
					t.Errorf("Play = %s, %d, %d", shown(q...), now, used)
				}
				for i, l := range lines {
					if got, next, ok := impl.LineOf(b, places[i]); !ok || next != places[i+1] || !sameLine(got, l) {
						t.Errorf("LineOf = %s, %d, %t", shownLine(got), next, ok)
					}
				}
			}
		})
	}
	all.Wait()
}

package tests

import (
	"bytes"
	"fmt"
	"math"
	"math/rand"
	"slices"
	"strings"
	"sync"
	"testing"

	"loop.example/g00473/impl"
)

func samePost(a, b impl.Post) bool {
	return sameItems(a.Queue, b.Queue) && a.Time == b.Time && bytes.Equal(a.Book, b.Book) && a.Sure == b.Sure
}

func clonedPost(p impl.Post) impl.Post {
	return impl.Post{Queue: clonedItems(p.Queue), Time: p.Time, Book: bytes.Clone(p.Book), Sure: p.Sure}
}

func shownPost(p impl.Post) string {
	return fmt.Sprintf("{%s at %d, of %d bytes %d are sure}", shown(p.Queue...), p.Time, len(p.Book), p.Sure)
}

// linesBy are the lines that a book begins with, and how many bytes they take.
func linesBy(b []byte) ([]impl.Line, int) {
	var lines []impl.Line
	at := 0
	for {
		l, next := lineOfBy(b, at)
		if next == 0 {
			return lines, at
		}
		lines, at = append(lines, l), next
	}
}

// postFits is PostOk once more, by lists alone.
func postFits(p impl.Post) bool {
	if len(p.Book) > 12000 {
		return false
	}
	lines, whole := linesBy(p.Book)
	q, time := played(lines)
	right := queueFits(p.Queue) && 0 <= p.Time && p.Time <= 100000 && 0 <= p.Sure && p.Sure <= len(p.Book)
	return right && sameItems(q, p.Queue) && time == p.Time && whole == len(p.Book)
}

// doneBy is Drop, Fetch or Tick once more, by the line that it would write.
func doneBy(p impl.Post, l impl.Line) (impl.Post, impl.Item, int) {
	if !postFits(p) || !lineFits(l) || l.Kind != 2 && l.Due < p.Time {
		return impl.Post{}, impl.Item{}, 1
	}
	at, _ := takeBy(p.Queue, l.Route)
	if l.Kind == 2 && at < 0 {
		return impl.Post{}, impl.Item{}, 3
	}
	_, room := putBy(p.Queue, itemOfLine(l))
	book := slices.Concat(p.Book, lineBytesBy(l))
	if l.Kind == 1 && !room || len(book) > 12000 {
		return impl.Post{}, impl.Item{}, 2
	}
	lines, _ := linesBy(book)
	q, time := played(lines)
	x := impl.Item{}
	if l.Kind == 2 {
		x = p.Queue[at]
	}
	return impl.Post{Queue: q, Time: time, Book: book, Sure: p.Sure}, x, 0
}

// fallBy is FallTo once more, of a post that is right.
func fallBy(p impl.Post, keep int) impl.Post {
	left := p.Sure
	for left < len(p.Book) && left-p.Sure < keep {
		left++
	}
	lines, whole := linesBy(p.Book[:left])
	q, time := played(lines)
	return impl.Post{Queue: q, Time: time, Book: p.Book[:whole], Sure: whole}
}

// asked is what the post answers to what the line tells of.
func asked(p impl.Post, l impl.Line) (impl.Post, impl.Item, int) {
	switch l.Kind {
	case impl.BkPut:
		after, code := impl.Drop(p, itemOfLine(l))
		return after, impl.Item{}, code
	case impl.BkTake:
		return impl.Fetch(p, l.Route)
	}
	after, code := impl.Tick(p, l.Due)
	return after, impl.Item{}, code
}

// checkAsked holds what the post answers against the lists; it hands on the post behind it, which is the old one where it is refused.
func checkAsked(t *testing.T, what string, p impl.Post, l impl.Line) (impl.Post, int) {
	t.Helper()
	want, wantItem, wantCode := doneBy(p, l)
	after, x, code := asked(p, l)
	if code != wantCode || !sameItem(x, wantItem) || !samePost(after, want) {
		t.Fatalf("%s: %s of %s = %s, %s, %d, want %s, %s, %d", what, shownLine(l), shownPost(p), shownPost(after), shown(x), code, shownPost(want), shown(wantItem), wantCode)
	}
	checkPostOk(t, what, after, true)
	if code != impl.PoDone {
		return p, code
	}
	return after, code
}

// checkCode holds what is answered, and that all is zero beside a code that refuses.
func checkCode(t *testing.T, what string, p impl.Post, l impl.Line, want int) impl.Post {
	t.Helper()
	after, code := checkAsked(t, what, p, l)
	if code != want {
		t.Fatalf("%s: %s of %s is answered by %d, want %d", what, shownLine(l), shownPost(p), code, want)
	}
	if got, x, _ := asked(p, l); code != impl.PoDone && (!samePost(got, impl.Post{}) || !sameItem(x, impl.Item{})) {
		t.Fatalf("%s: beside %d there is %s, %s", what, code, shownPost(got), shown(x))
	}
	return after
}

func checkPostOk(t *testing.T, what string, p impl.Post, want bool) {
	t.Helper()
	if got := impl.PostOk(p); got != want || postFits(p) != want {
		t.Fatalf("%s: PostOk(%s) = %t, want %t", what, shownPost(p), got, want)
	}
}

func checkFall(t *testing.T, what string, p impl.Post, keep int, want impl.Post) impl.Post {
	t.Helper()
	got := impl.FallTo(p, keep)
	if !samePost(got, want) {
		t.Fatalf("%s: FallTo(%s, %d) = %s, want %s", what, shownPost(p), keep, shownPost(got), shownPost(want))
	}
	return got
}

// checkNoPost holds what is answered of a post that is not right.
func checkNoPost(t *testing.T, what string, p impl.Post) {
	t.Helper()
	checkPostOk(t, what, p, false)
	for _, l := range []impl.Line{
		putLine(dueAt(itemOf(routeA, 3, "new"), impl.MaxTime)), putLine(impl.Item{}), takeLine(routeA), takeLine(routeB), takeLine(routeC), takeLine(strings.Repeat("1", 16)), takeLine(""),
		timeLine(p.Time), timeLine(0), timeLine(impl.MaxTime), timeLine(-1), timeLine(impl.MaxTime + 1),
	} {
		checkCode(t, what, p, l, impl.PoBad)
	}
	if got := impl.Sync(p); !samePost(got, p) {
		t.Fatalf("%s: Sync(%s) = %s, want it as it was", what, shownPost(p), shownPost(got))
	}
	for _, keep := range []int{-1, 0, 1, 18, 1 << 40} {
		checkFall(t, what, p, keep, p)
	}
}

// postOf is the post that the lines tell, of which nothing is sure.
func postOf(t *testing.T, lines ...impl.Line) impl.Post {
	t.Helper()
	b, _ := bookOf(t, lines...)
	q, time := played(lines)
	return impl.Post{Queue: q, Time: time, Book: b}
}

// longPost has a book of just so many bytes: one item waits, and the time is told again and again.
func longPost(t *testing.T, many int) impl.Post {
	t.Helper()
	x := dueAt(itemOf(routeA, 1, strings.Repeat("x", many%18)), impl.MaxTime)
	lines := append([]impl.Line{putLine(x)}, slices.Repeat([]impl.Line{timeLine(3)}, many/18-1)...)
	p := postOf(t, lines...)
	if len(p.Book) != many {
		t.Fatalf("the book has %d bytes, want %d", len(p.Book), many)
	}
	return p
}

// someDeeds are lines that a post writes one behind the other, each of which does something.
func someDeeds() []impl.Line {
	return []impl.Line{
		putLine(itemOf(routeA, 1, "a1")), putLine(dueAt(itemOf(routeB, 1, "b1"), 3)), timeLine(2), putLine(dueAt(itemOf(routeA, 0, ""), 40)),
		putLine(dueAt(itemOf(routeA, 1, "anew"), 30)), takeLine(routeA), putLine(dueAt(itemOf(routeC, 9, "c9"), impl.MaxTime)), timeLine(4),
		putLine(dueAt(itemOf(routeB, 0, string(someBytes(70))), 4)), takeLine(routeC), timeLine(5), putLine(dueAt(itemOf(routeC, 2, "end"), 5)),
	}
}

func allDone(t *testing.T, p impl.Post, lines ...impl.Line) impl.Post {
	t.Helper()
	for _, l := range lines {
		p = checkCode(t, "one behind the other", p, l, impl.PoDone)
	}
	return p
}

func TestANewPost(t *testing.T) {
	p := impl.PostNew()
	if !samePost(p, impl.Post{}) {
		t.Fatalf("PostNew() = %s", shownPost(p))
	}
	checkPostOk(t, "a new one", p, true)
	if got := impl.Sync(p); !samePost(got, p) {
		t.Errorf("Sync of a new one = %s", shownPost(got))
	}
	for _, keep := range []int{math.MinInt, -1, 0, 1, math.MaxInt} {
		checkFall(t, "a new one", p, keep, p)
	}
	for _, route := range []string{routeA, routeC} {
		checkCode(t, "nothing waits", p, takeLine(route), impl.PoNone)
	}
	if impl.PoDone != 0 || impl.PoBad != 1 || impl.PoFull != 2 || impl.PoNone != 3 {
		t.Error("the codes are others", impl.PoDone, impl.PoBad, impl.PoFull, impl.PoNone)
	}
}

func TestAPostStepByStep(t *testing.T) {
	a1, b1, a0 := dueAt(itemOf(routeA, 1, "a1"), 9), dueAt(itemOf(routeB, 1, "b1"), 4), dueAt(itemOf(routeA, 0, "a0"), 5)
	newA1 := dueAt(itemOf(routeA, 1, "new"), 6)
	p := impl.PostNew()
	var book []byte
	for _, step := range []struct {
		what string
		l    impl.Line
		x    impl.Item
		want []impl.Item
		time int
	}{
		{"a drop", putLine(a1), impl.Item{}, []impl.Item{a1}, 0},
		{"another drop", putLine(b1), impl.Item{}, []impl.Item{a1, b1}, 0},
		{"a third drop", putLine(a0), impl.Item{}, []impl.Item{a1, b1, a0}, 0},
		{"time 0", timeLine(0), impl.Item{}, []impl.Item{a1, b1, a0}, 0},
		{"a time at which all are due", timeLine(4), impl.Item{}, []impl.Item{a1, b1, a0}, 4},
		{"the time itself", timeLine(4), impl.Item{}, []impl.Item{a1, b1, a0}, 4},
		{"a topic anew", putLine(newA1), impl.Item{}, []impl.Item{b1, a0, newA1}, 4},
		{"the first one of a route", takeLine(routeA), a0, []impl.Item{b1, newA1}, 4},
		{"that one again", putLine(a0), impl.Item{}, []impl.Item{b1, newA1, a0}, 4},
		{"one more of the time", timeLine(5), impl.Item{}, []impl.Item{newA1, a0}, 5},
		{"the next one", takeLine(routeA), newA1, []impl.Item{a0}, 5},
		{"the last one", takeLine(routeA), a0, nil, 5},
		{"the last time there is", timeLine(impl.MaxTime), impl.Item{}, nil, impl.MaxTime},
		{"one that is due at the end", putLine(dueAt(a1, impl.MaxTime)), impl.Item{}, []impl.Item{dueAt(a1, impl.MaxTime)}, impl.MaxTime},
	} {
		after, x, code := asked(p, step.l)
		book = append(book, lineBytesBy(step.l)...)
		if want := (impl.Post{Queue: step.want, Time: step.time, Book: book}); code != impl.PoDone || !sameItem(x, step.x) || !samePost(after, want) {
			t.Fatalf("%s: %s, %s, %d, want %s, %s", step.what, shownPost(after), shown(x), code, shownPost(want), shown(step.x))
		}
		p = checkCode(t, step.what, p, step.l, impl.PoDone)
	}
}

// What was sure is as it was behind each deed: what is written behind it is not sure yet.
func TestDeedsMakeNothingSure(t *testing.T) {
	p := impl.PostNew()
	for i, l := range someDeeds() {
		sure := impl.Sync(p)
		if want := (impl.Post{Queue: p.Queue, Time: p.Time, Book: p.Book, Sure: len(p.Book)}); !samePost(sure, want) {
			t.Fatalf("Sync(%s) = %s", shownPost(p), shownPost(sure))
		}
		after := checkCode(t, "a deed", sure, l, impl.PoDone)
		if after.Sure != len(p.Book) || len(after.Book) <= after.Sure {
			t.Fatalf("behind deed %d: %s", i, shownPost(after))
		}
		p = checkCode(t, "a deed", p, l, impl.PoDone)
		if p.Sure != 0 {
			t.Fatalf("behind deed %d without Sync: %s", i, shownPost(p))
		}
	}
}

func TestWhatIsDroppedIsFetchedInItsOrder(t *testing.T) {
	p := impl.PostNew()
	for _, x := range fullQueue() {
		p = checkCode(t, "a drop", p, putLine(x), impl.PoDone)
	}
	for _, route := range []string{routeC, routeA, routeB} {
		for _, want := range fullQueue() {
			if want.Route != route {
				continue
			}
			after, x, code := impl.Fetch(p, route)
			if code != impl.PoDone || !sameItem(x, want) {
				t.Fatalf("Fetch(%s, %s) = %s, %d, want %s", shownPost(p), route, shown(x), code, shown(want))
			}
			checkPostOk(t, "a fetch", after, true)
			p = after
		}
		checkCode(t, "all are fetched", p, takeLine(route), impl.PoNone)
	}
	if len(p.Queue) != 0 || len(p.Book) == 0 {
		t.Errorf("at the end there is %s", shownPost(p))
	}
}

// Promise 15: wherever a post was synced, and however much of the rest is kept by a fall, what was sure is there, and of the rest its whole lines.
func TestWhatIsSureStays(t *testing.T) {
	deeds := someDeeds()
	_, places := bookOf(t, deeds...)
	for synced := range len(deeds) + 1 {
		sure := impl.Sync(allDone(t, impl.PostNew(), deeds[:synced]...))
		p := allDone(t, sure, deeds[synced:]...)
		whole := synced
		for keep := 0; keep <= len(p.Book)-p.Sure; keep++ {
			if whole < len(deeds) && p.Sure+keep == places[whole+1] {
				whole++
			}
			q, time := played(deeds[:whole])
			want := impl.Post{Queue: q, Time: time, Book: p.Book[:places[whole]], Sure: places[whole]}
			got := checkFall(t, "so many are kept", p, keep, want)
			checkPostOk(t, "behind a fall", got, true)
			if !bytes.HasPrefix(got.Book, sure.Book) || got.Sure < sure.Sure || keep == 0 && !samePost(got, sure) {
				t.Fatalf("of %s there is left %s", shownPost(sure), shownPost(got))
			}
		}
		all := impl.Sync(p)
		for _, more := range []int{1, 2, 18, 1000, impl.MaxBook} {
			checkFall(t, "more than there are", p, len(p.Book)-p.Sure+more, all)
		}
		for _, keep := range []int{1 << 32, math.MaxInt - len(p.Book), math.MaxInt - p.Sure, math.MaxInt - 1, math.MaxInt} {
			checkFall(t, "far more than there are", p, keep, all)
		}
		for _, keep := range []int{-1, -2, -18, -p.Sure, -len(p.Book), -math.MaxInt, math.MinInt} {
			checkFall(t, "fewer than none", p, keep, sure)
		}
	}
}

// Also where what is sure ends within a line, that line is there as far only as it is whole.
func TestAFallWithinALine(t *testing.T) {
	p := allDone(t, impl.PostNew(), someDeeds()[:6]...)
	for sure := range len(p.Book) + 1 {
		p.Sure = sure
		checkPostOk(t, "sure within a line", p, true)
		for _, keep := range []int{-1, 0, 1, 5, 17, 18, 19, 40, len(p.Book)} {
			checkPostOk(t, "behind a fall", checkFall(t, "sure within a line", p, keep, fallBy(p, keep)), true)
		}
		if after := checkCode(t, "sure within a line", p, timeLine(7), impl.PoDone); after.Sure != sure {
			t.Fatalf("of %d sure bytes there are %d", sure, after.Sure)
		}
	}
}

// What fell once stays so: all that is left is sure.
func TestAFallBehindAFall(t *testing.T) {
	p := allDone(t, impl.Sync(allDone(t, impl.PostNew(), someDeeds()[:3]...)), someDeeds()[3:]...)
	for keep := range len(p.Book) - p.Sure + 1 {
		fallen := impl.FallTo(p, keep)
		for _, again := range []int{-1, 0, 1, 1000} {
			checkFall(t, "once more", fallen, again, fallen)
		}
		if got := impl.Sync(fallen); !samePost(got, fallen) {
			t.Fatalf("Sync(%s) = %s", shownPost(fallen), shownPost(got))
		}
		x := putLine(dueAt(itemOf(routeC, 5, "behind"), 50))
		later := checkCode(t, "behind a fall it goes on", fallen, x, impl.PoDone)
		checkFall(t, "what came behind it", later, 0, fallen)
		checkFall(t, "what came behind it, but for a byte", later, len(later.Book)-later.Sure-1, fallen)
		checkFall(t, "what came behind it, whole", later, len(later.Book)-later.Sure, impl.Sync(later))
	}
}

func TestPostsWithWrongTimes(t *testing.T) {
	for _, p := range []impl.Post{{}, postOf(t, someDeeds()...), postOf(t, timeLine(impl.MaxTime)), postOf(t, putLine(itemOf(routeA, 1, "x")))} {
		right := p.Time
		for _, time := range append(noDues, right-1, right+1, 0, 1, impl.MaxTime, right+256, right+1<<32) {
			p.Time = time
			if time != right {
				checkNoPost(t, "another time", p)
			}
		}
		p.Time = right
		checkPostOk(t, "its time", p, true)
	}
}

func TestPostsWithAnotherSure(t *testing.T) {
	for _, p := range []impl.Post{{}, postOf(t, someDeeds()...), postOf(t, timeLine(7)), longPost(t, impl.MaxBook)} {
		for _, sure := range []int{0, 1, 17, 18, len(p.Book) - 1, len(p.Book)} {
			p.Sure = sure
			if 0 <= sure && sure <= len(p.Book) {
				checkPostOk(t, "so many are sure", p, true)
			}
		}
		for _, sure := range []int{-1, -2, -len(p.Book) - 1, math.MinInt, len(p.Book) + 1, len(p.Book) + 2, impl.MaxBook + 1, 1 << 32, math.MaxInt} {
			p.Sure = sure
			checkNoPost(t, "so many cannot be sure", p)
		}
	}
}

func TestPostsWithAnotherQueue(t *testing.T) {
	var lines []impl.Line
	for _, x := range fullQueue() {
		lines = append(lines, putLine(x))
	}
	p := postOf(t, lines...)
	checkPostOk(t, "its queue", p, true)
	with := func(turn func(q []impl.Item) []impl.Item) impl.Post {
		other := clonedPost(p)
		other.Queue = turn(other.Queue)
		return other
	}
	for i := range p.Queue {
		for what, turn := range map[string]func(x *impl.Item){
			"route":         func(x *impl.Item) { x.Route = strings.Repeat("1", 16) },
			"no route":      func(x *impl.Item) { x.Route = strings.ToUpper(x.Route + "a") },
			"topic":         func(x *impl.Item) { x.Topic = 7 },
			"no topic":      func(x *impl.Item) { x.Topic = -1 },
			"due":           func(x *impl.Item) { x.Due++ },
			"no due":        func(x *impl.Item) { x.Due = -1 },
			"a byte":        func(x *impl.Item) { x.Bytes[0] ^= 1 },
			"its last byte": func(x *impl.Item) { x.Bytes[len(x.Bytes)-1] ^= 128 },
			"a byte less":   func(x *impl.Item) { x.Bytes = x.Bytes[:1] },
			"a byte more":   func(x *impl.Item) { x.Bytes = append(x.Bytes, 0) },
			"no bytes":      func(x *impl.Item) { x.Bytes = nil },
			"far too many":  func(x *impl.Item) { x.Bytes = make([]byte, mostBytes+1) },
		} {
			checkNoPost(t, "an item with another "+what, with(func(q []impl.Item) []impl.Item {
				turn(&q[i])
				return q
			}))
		}
		checkNoPost(t, "one is missing", with(func(q []impl.Item) []impl.Item { return slices.Delete(q, i, i+1) }))
		checkNoPost(t, "one is there twice", with(func(q []impl.Item) []impl.Item { return append(q, q[i]) }))
	}
	checkNoPost(t, "the others come first", with(func(q []impl.Item) []impl.Item { return append(q[1:], q[0]) }))
	checkNoPost(t, "none", with(func([]impl.Item) []impl.Item { return nil }))
	checkNoPost(t, "the queue without a book", impl.Post{Queue: p.Queue})
	checkNoPost(t, "far too many", with(func(q []impl.Item) []impl.Item { return slices.Repeat(q, 50) }))
}

// A queue that a book would have, were there room, is none of a post.
func TestPostsWithoutRoom(t *testing.T) {
	one := itemOf(routeA, 0, "one")
	b, _ := bookOf(t, slices.Repeat([]impl.Line{putLine(one)}, 5)...)
	checkNoPost(t, "five of one route", impl.Post{Queue: slices.Repeat([]impl.Item{one}, 5), Book: b})
	checkPostOk(t, "four of these", impl.Post{Queue: slices.Repeat([]impl.Item{one}, 4), Book: b}, true)
	topic := itemOf(routeB, 3, "topic")
	b, _ = bookOf(t, putLine(topic), putLine(topic))
	checkNoPost(t, "a topic twice", impl.Post{Queue: []impl.Item{topic, topic}, Book: b})
	checkPostOk(t, "a topic", impl.Post{Queue: []impl.Item{topic}, Book: b}, true)
}

func TestPostsWithAnotherBook(t *testing.T) {
	deeds := someDeeds()
	p := postOf(t, deeds...)
	right := p.Book
	for _, junk := range [][]byte{{0}, {1}, {3}, {255}, make([]byte, 17), make([]byte, 18), right[:17], right[1:], bytes.Repeat([]byte{255}, 100)} {
		p.Book = slices.Concat(right, junk)
		checkNoPost(t, "bytes behind the last line", p)
		checkNoPost(t, "bytes alone", impl.Post{Book: junk})
		p.Book = slices.Concat(junk, right)
		checkNoPost(t, "bytes ahead of the first line", p)
	}
	for cut := range len(right) {
		p.Book = right[:cut]
		checkPostOk(t, "a book that is cut", p, false)
	}
	for place := range right {
		p.Book = bent(right, place, 64)
		// A byte of what was taken, or went, may be another: the book tells nothing of it any more.
		checkPostOk(t, "a byte is another", p, postFits(p))
	}
	p.Book = slices.Concat(right, impl.LineBytes(putLine(itemOf(routeC, 7, "more"))))
	checkNoPost(t, "a line more", p)
	p.Book = slices.Concat(right, impl.LineBytes(timeLine(p.Time+1)))
	checkNoPost(t, "a time more", p)
	p.Book = slices.Concat(right, impl.LineBytes(takeLine(strings.Repeat("1", 16))))
	checkPostOk(t, "a line more that does nothing", p, true)
	p.Book = nil
	checkNoPost(t, "no book", p)
}

func TestPostsWithALongBook(t *testing.T) {
	for many := impl.MaxBook - 40; many < impl.MaxBook+40; many++ {
		p := longPost(t, many)
		checkPostOk(t, fmt.Sprint("a book of ", many), p, many <= 12000)
		p.Sure = many
		checkPostOk(t, fmt.Sprint("a book of ", many, ", all sure"), p, many <= 12000)
	}
	checkNoPost(t, "one byte more", longPost(t, impl.MaxBook+1))
	checkNoPost(t, "many bytes more", longPost(t, 10*impl.MaxBook))
	checkNoPost(t, "a book of zeros", impl.Post{Book: make([]byte, 1<<20)})
	full := longPost(t, impl.MaxBook)
	if got := impl.Sync(full); got.Sure != 12000 || len(got.Book) != 12000 || !impl.PostOk(got) {
		t.Errorf("Sync of a full book = %s", shownPost(got))
	}
	checkFall(t, "a full book", full, impl.MaxBook, impl.Sync(full))
	checkFall(t, "a full book but for a byte", full, impl.MaxBook-1, fallBy(full, impl.MaxBook-1))
}

// Lines that a post would not write are in a book all the same, as far as Play goes.
func TestPostsWithLinesThatNoPostWrites(t *testing.T) {
	late := dueAt(itemOf(routeA, 1, "late"), 3)
	p := postOf(t, timeLine(5), putLine(late), takeLine(routeB), timeLine(4), putLine(late), timeLine(0), putLine(late))
	if p.Time != 5 || !sameItems(p.Queue, []impl.Item{late}) {
		t.Fatalf("the book tells %s", shownPost(p))
	}
	checkPostOk(t, "a late one", p, true)
	after := checkCode(t, "the time itself", p, timeLine(5), impl.PoDone)
	if len(after.Queue) != 0 || after.Time != 5 {
		t.Errorf("a late one is left: %s", shownPost(after))
	}
	checkCode(t, "a late one again", p, putLine(late), impl.PoBad)
	if _, x, code := impl.Fetch(p, routeA); code != impl.PoDone || !sameItem(x, late) {
		t.Errorf("a late one is not fetched: %s, %d", shown(x), code)
	}
	someBook := postOf(t, someLines()...)
	checkPostOk(t, "lines that do nothing", someBook, true)
	for keep := range len(someBook.Book) + 2 {
		checkFall(t, "lines that do nothing", someBook, keep, fallBy(someBook, keep))
	}
}

func TestDropAtTheTime(t *testing.T) {
	for _, time := range []int{0, 1, 9, 256, impl.MaxTime - 1, impl.MaxTime} {
		p := allDone(t, impl.PostNew(), timeLine(time))
		for _, c := range []struct{ due, code int }{
			{time, impl.PoDone}, {time - 1, impl.PoBad}, {time - 2, impl.PoBad}, {-1, impl.PoBad}, {math.MinInt, impl.PoBad},
			{impl.MaxTime, impl.PoDone}, {impl.MaxTime + 1, impl.PoBad}, {impl.MaxTime + 2, impl.PoBad}, {math.MaxInt, impl.PoBad},
		} {
			for _, topic := range []int{0, 1, 9} {
				after := checkCode(t, "due at", p, putLine(dueAt(itemOf(routeA, topic, "x"), c.due)), c.code)
				if c.code == impl.PoDone && (len(after.Queue) != 1 || after.Time != time) {
					t.Fatalf("at %d, due at %d: %s", time, c.due, shownPost(after))
				}
			}
		}
	}
}

func TestDropOfWhatIsNoItem(t *testing.T) {
	for _, p := range []impl.Post{{}, postOf(t, someDeeds()...), postOf(t, timeLine(impl.MaxTime))} {
		for _, topic := range []int{0, 1, 9} {
			for _, bad := range append(badItems(routeA, topic), impl.Item{}) {
				checkCode(t, "no item", p, putLine(bad), impl.PoBad)
			}
		}
		for _, x := range []impl.Item{{Route: routeA, Due: impl.MaxTime}, {Route: routeC, Topic: 9, Due: impl.MaxTime, Bytes: make([]byte, mostBytes)}} {
			checkCode(t, "an item at its limits", p, putLine(x), impl.PoDone)
		}
	}
}

func TestDropWhereThereIsNoRoom(t *testing.T) {
	var lines []impl.Line
	for _, x := range fullQueue() {
		lines = append(lines, putLine(x))
	}
	nine, full := postOf(t, lines[:9]...), postOf(t, lines...)
	checkCode(t, "a fifth one of a route", nine, putLine(itemOf(routeA, 3, "new")), impl.PoFull)
	checkCode(t, "a fifth one of a route, of no topic", nine, putLine(itemOf(routeA, 0, "new")), impl.PoFull)
	checkCode(t, "the tenth one", nine, putLine(itemOf(routeC, 1, "new")), impl.PoDone)
	checkCode(t, "the eleventh one", full, putLine(itemOf(routeC, 1, "new")), impl.PoFull)
	checkCode(t, "the eleventh one, of no topic", full, putLine(itemOf(routeC, 0, "new")), impl.PoFull)
	checkCode(t, "the eleventh one, of a new route", full, putLine(itemOf(strings.Repeat("1", 16), 1, "new")), impl.PoFull)
	for _, x := range fullQueue() {
		want := impl.PoDone
		if x.Topic == 0 {
			want = impl.PoFull
		}
		after := checkCode(t, "a topic anew", full, putLine(x), want)
		if want == impl.PoDone && (len(after.Queue) != 10 || !sameItem(after.Queue[9], x)) {
			t.Fatalf("%s is not behind all of %s", shown(x), shownPost(after))
		}
	}
	after := checkCode(t, "one is fetched", full, takeLine(routeA), impl.PoDone)
	checkCode(t, "there is room again", after, putLine(itemOf(routeC, 1, "new")), impl.PoDone)
	after = checkCode(t, "the time", full, timeLine(10), impl.PoDone)
	checkCode(t, "there is room again", after, putLine(dueAt(itemOf(routeA, 0, "new"), 10)), impl.PoDone)
}

func TestFetchOfWhatIsNoRoute(t *testing.T) {
	for _, p := range []impl.Post{{}, postOf(t, someDeeds()...), postOf(t, putLine(itemOf(routeA, 0, "x"))), longPost(t, impl.MaxBook)} {
		for _, route := range noRoutes {
			checkCode(t, "no route", p, takeLine(route), impl.PoBad)
		}
		for _, route := range []string{strings.Repeat("1", 16), strings.Repeat("0", 16), strings.Repeat("f", 16), "fedcba9876543211"} {
			checkCode(t, "a route that no item has", p, takeLine(route), impl.PoNone)
		}
	}
}

func TestTickAtTheEdges(t *testing.T) {
	for _, time := range []int{0, 1, 9, 65536, impl.MaxTime - 1, impl.MaxTime} {
		p := allDone(t, impl.PostNew(), timeLine(time), putLine(dueAt(itemOf(routeA, 1, "now"), time)), putLine(dueAt(itemOf(routeB, 0, "end"), impl.MaxTime)))
		for _, now := range append(noDues, time-1, time-2, math.MinInt, math.MaxInt) {
			checkCode(t, "no time", p, timeLine(now), impl.PoBad)
		}
		for now := range min(time, 20) {
			checkCode(t, "a time that is over", p, timeLine(now), impl.PoBad)
		}
		after := checkCode(t, "the time itself", p, timeLine(time), impl.PoDone)
		if len(after.Queue) != 2 || after.Time != time {
			t.Fatalf("at %d, behind that: %s", time, shownPost(after))
		}
		after = checkCode(t, "the end", p, timeLine(impl.MaxTime), impl.PoDone)
		if after.Time != impl.MaxTime || len(after.Queue) == 2 != (time == impl.MaxTime) {
			t.Fatalf("at the end: %s", shownPost(after))
		}
		if time < impl.MaxTime {
			after = checkCode(t, "one more", p, timeLine(time+1), impl.PoDone)
			if len(after.Queue) != 1 || after.Queue[0].Route != routeB {
				t.Fatalf("one more than %d: %s", time, shownPost(after))
			}
		}
	}
}

func TestTickLeavesTheOthersInTheirOrder(t *testing.T) {
	q := fullQueue()
	var lines []impl.Line
	for i, due := range []int{5, 3, 9, 0, 7, 3, 5, 8, 3, 4} {
		q[i].Due = due
		lines = append(lines, putLine(q[i]))
	}
	p := allDone(t, impl.PostNew(), lines...)
	for now := range 12 {
		var want []impl.Item
		for _, x := range q {
			if x.Due >= now {
				want = append(want, x)
			}
		}
		if after := checkCode(t, "the time", p, timeLine(now), impl.PoDone); !sameItems(after.Queue, want) {
			t.Fatalf("at %d there waits %s, want %s", now, shown(after.Queue...), shown(want...))
		}
	}
}

// A book that a line would bring to MaxBook takes it; one byte more, and it does not.
func TestBooksThatAreJustFull(t *testing.T) {
	for what, l := range map[string]impl.Line{
		"a put":             putLine(dueAt(itemOf(routeB, 1, "bytes"), 9)),
		"a put of nothing":  putLine(dueAt(itemOf(routeB, 0, ""), 3)),
		"a put of the most": putLine(dueAt(itemOf(routeC, 9, string(someBytes(mostBytes))), impl.MaxTime)),
		"a topic anew":      putLine(dueAt(itemOf(routeA, 1, "anew"), 9)),
		"a take":            takeLine(routeA),
		"a time":            timeLine(50),
		"the time itself":   timeLine(3),
		"the end":           timeLine(impl.MaxTime),
	} {
		size := len(lineBytesBy(l))
		for _, less := range []int{2, 1, 0} {
			after := checkCode(t, what+" that has room", longPost(t, impl.MaxBook-size-less), l, impl.PoDone)
			if len(after.Book) != 12000-less {
				t.Fatalf("%s: the book has %d bytes", what, len(after.Book))
			}
		}
		for _, more := range []int{1, 2, size - 1, size} {
			checkCode(t, what+" that has no room", longPost(t, impl.MaxBook-size+more), l, impl.PoFull)
		}
	}
	sure := impl.Sync(longPost(t, impl.MaxBook))
	checkCode(t, "what is sure is no room either", sure, timeLine(50), impl.PoFull)
}

// Where several reasons apply: PoBad ahead of all, PoNone ahead of PoFull.
func TestWhichReasonComesFirst(t *testing.T) {
	full, late := longPost(t, impl.MaxBook), dueAt(itemOf(routeB, 1, "late"), 2)
	checkCode(t, "a full book", full, putLine(dueAt(late, 3)), impl.PoFull)
	checkCode(t, "too late, and a full book", full, putLine(late), impl.PoBad)
	checkCode(t, "no item, and a full book", full, putLine(impl.Item{}), impl.PoBad)
	checkCode(t, "no route, and a full book", full, takeLine(routeA[1:]), impl.PoBad)
	checkCode(t, "none, and a full book", full, takeLine(routeB), impl.PoNone)
	checkCode(t, "one, and a full book", full, takeLine(routeA), impl.PoFull)
	checkCode(t, "a time that is over, and a full book", full, timeLine(2), impl.PoBad)
	checkCode(t, "a time behind the last one, and a full book", full, timeLine(impl.MaxTime+1), impl.PoBad)
	checkCode(t, "a time, and a full book", full, timeLine(3), impl.PoFull)
	wrong := clonedPost(full)
	wrong.Sure = -1
	for _, l := range []impl.Line{putLine(dueAt(late, 3)), putLine(late), takeLine(routeA), takeLine(routeB), takeLine(""), timeLine(3), timeLine(2)} {
		checkCode(t, "no post, and a full book", wrong, l, impl.PoBad)
	}
	var lines []impl.Line
	for _, x := range fullQueue() {
		lines = append(lines, putLine(x))
	}
	crowded := postOf(t, append(lines, timeLine(8))...)
	checkCode(t, "too late, and a full queue", crowded, putLine(dueAt(itemOf(routeC, 3, ""), 7)), impl.PoBad)
	checkCode(t, "due, and a full queue", crowded, putLine(dueAt(itemOf(routeC, 3, ""), 8)), impl.PoFull)
	for _, bad := range badItems(routeC, 3) {
		checkCode(t, "no item, and a full queue", crowded, putLine(bad), impl.PoBad)
	}
	crowded.Time++
	checkCode(t, "no post, and a full queue", crowded, putLine(dueAt(itemOf(routeC, 3, ""), 9)), impl.PoBad)
	checkCode(t, "no post, and none", crowded, takeLine(strings.Repeat("1", 16)), impl.PoBad)
}

// What is refused leaves the post that was given as it was: it goes on from there.
func TestWhatIsRefusedTurnsNothing(t *testing.T) {
	deeds := someDeeds()
	plain, pestered := impl.PostNew(), impl.PostNew()
	for _, l := range deeds {
		for _, bad := range []impl.Line{putLine(impl.Item{}), putLine(dueAt(itemOf(routeA, 1, ""), pestered.Time-1)), takeLine("x"), takeLine(strings.Repeat("1", 16)), timeLine(-1), timeLine(impl.MaxTime + 1)} {
			if _, _, code := asked(pestered, bad); code == impl.PoDone {
				t.Fatalf("%s is done", shownLine(bad))
			}
		}
		plain, pestered = checkCode(t, "alone", plain, l, impl.PoDone), checkCode(t, "among others", pestered, l, impl.PoDone)
		if !samePost(plain, pestered) {
			t.Fatalf("%s, want %s", shownPost(pestered), shownPost(plain))
		}
	}
}

// anyDeed is often one that is done at that time.
func anyDeed(from *rand.Rand, now int, note string) impl.Line {
	switch from.Intn(7) {
	case 0:
		return takeLine([]string{routeA, routeB, routeC, "none", strings.Repeat("1", 16)}[from.Intn(5)])
	case 1:
		return timeLine(now + from.Intn(5) - 1)
	}
	x := anyItem(from, note)
	x.Due += now + from.Intn(20) - 1
	x.Bytes = bytes.Repeat(x.Bytes, from.Intn(60))
	return putLine(x)
}

func TestPostsAgainstLists(t *testing.T) {
	from := rand.New(rand.NewSource(15))
	codes := map[int]int{}
	for range 60 {
		p := impl.PostNew()
		for i := range 120 {
			switch from.Intn(12) {
			case 0:
				p = impl.Sync(p)
				if p.Sure != len(p.Book) {
					t.Fatalf("behind Sync: %s", shownPost(p))
				}
			case 1:
				keep := from.Intn(200) - 20
				p = checkFall(t, "any fall", p, keep, fallBy(p, keep))
			default:
				var code int
				p, code = checkAsked(t, "any deed", p, anyDeed(from, p.Time, fmt.Sprint(i)))
				codes[code]++
			}
			checkPostOk(t, "whatever is done", p, true)
		}
	}
	for code := impl.PoDone; code <= impl.PoNone; code++ {
		if codes[code] < 50 {
			t.Errorf("code %d came %d times only", code, codes[code])
		}
	}
}

// Promise 15, held against what was kept of each Sync: whatever is done and however often it falls, the sure bytes stand at the beginning.
func TestWhatIsSureStaysAmongMany(t *testing.T) {
	from := rand.New(rand.NewSource(1515))
	for range 60 {
		p := impl.PostNew()
		var sure []byte
		for i := range 60 {
			switch from.Intn(8) {
			case 0:
				p = impl.Sync(p)
				sure = bytes.Clone(p.Book)
			case 1:
				p = impl.FallTo(p, from.Intn(300))
				sure = bytes.Clone(p.Book)
			default:
				if after, _, code := asked(p, anyDeed(from, p.Time, fmt.Sprint(i))); code == impl.PoDone {
					p = after
				}
			}
			if !bytes.Equal(p.Book[:p.Sure], sure) {
				t.Fatalf("what was sure is not there any more: %s", shownPost(p))
			}
			lines, whole := linesBy(sure)
			q, time := played(lines)
			checkFall(t, "nothing else is kept", p, 0, impl.Post{Queue: q, Time: time, Book: sure, Sure: whole})
		}
	}
}

// writeOverPost turns all that a post has, and the room behind it.
func writeOverPost(p impl.Post) {
	writeOver(p.Queue)
	whole := p.Book[:cap(p.Book)]
	for i := range whole {
		whole[i] ^= 255
	}
}

// postAsks are what answers with a post, and with an item beside it.
func postAsks(p impl.Post, x impl.Item) map[string]func() (impl.Post, impl.Item) {
	alone := func(p impl.Post) (impl.Post, impl.Item) { return p, impl.Item{} }
	deed := func(l impl.Line) func() (impl.Post, impl.Item) {
		return func() (impl.Post, impl.Item) {
			after, item, _ := asked(p, l)
			return after, item
		}
	}
	wrong := p
	wrong.Time = -1
	return map[string]func() (impl.Post, impl.Item){
		"PostNew":                func() (impl.Post, impl.Item) { return alone(impl.PostNew()) },
		"Drop":                   deed(putLine(x)),
		"Drop of a topic anew":   deed(putLine(dueAt(itemOf(routeA, 1, "anew"), 40))),
		"Drop that is refused":   deed(putLine(impl.Item{})),
		"Fetch":                  deed(takeLine(routeA)),
		"Fetch of none":          deed(takeLine(strings.Repeat("1", 16))),
		"Tick":                   deed(timeLine(p.Time)),
		"Tick at which one goes": deed(timeLine(p.Time + 1)),
		"Sync":                   func() (impl.Post, impl.Item) { return alone(impl.Sync(p)) },
		"Sync of what is none":   func() (impl.Post, impl.Item) { return alone(impl.Sync(wrong)) },
		"FallTo of none":         func() (impl.Post, impl.Item) { return alone(impl.FallTo(p, 0)) },
		"FallTo of some":         func() (impl.Post, impl.Item) { return alone(impl.FallTo(p, 50)) },
		"FallTo of all":          func() (impl.Post, impl.Item) { return alone(impl.FallTo(p, 5000)) },
		"FallTo of what is none": func() (impl.Post, impl.Item) { return alone(impl.FallTo(wrong, 50)) },
	}
}

// busyPost has items that wait, some bytes that are sure, and room behind its lists.
func busyPost(t *testing.T) (impl.Post, impl.Item) {
	t.Helper()
	p := impl.Sync(allDone(t, impl.PostNew(), someDeeds()[:5]...))
	p = allDone(t, p, putLine(dueAt(itemOf(routeC, 9, "c9"), 2)), putLine(dueAt(itemOf(routeB, 2, "b2"), 50)))
	p.Queue = append(make([]impl.Item, 0, 20), p.Queue...)
	p.Book = append(make([]byte, 0, 1000), p.Book...)
	return p, dueAt(itemOf(routeC, 1, "new"), 20)
}

func TestPostsAnswerAnewEachTime(t *testing.T) {
	p, x := busyPost(t)
	was, itemWas := busyPost(t)
	for name, ask := range postAsks(p, x) {
		kept, keptItem := ask()
		kept, keptItem = clonedPost(kept), clonedItems([]impl.Item{keptItem})[0]
		got, item := ask()
		writeOverPost(got)
		writeOver([]impl.Item{item})
		if !samePost(p, was) || !sameItem(x, itemWas) {
			t.Fatalf("%s shares memory with an argument: %s, %s", name, shownPost(p), shown(x))
		}
		if again, itemAgain := ask(); !samePost(again, kept) || !sameItem(itemAgain, keptItem) {
			t.Errorf("%s, asked again, = %s, %s, want %s, %s", name, shownPost(again), shown(itemAgain), shownPost(kept), shown(keptItem))
		}
	}
}

// What is given may be written over behind a call: what was answered stays as it was.
func TestAPostThatChangesBehindACall(t *testing.T) {
	for name := range postAsks(impl.Post{}, impl.Item{}) {
		p, x := busyPost(t)
		got, item := postAsks(p, x)[name]()
		kept, keptItem := clonedPost(got), clonedItems([]impl.Item{item})[0]
		writeOverPost(p)
		writeOver([]impl.Item{x})
		if !samePost(got, kept) || !sameItem(item, keptItem) {
			t.Errorf("%s turned into %s, %s, want %s, %s", name, shownPost(got), shown(item), shownPost(kept), shown(keptItem))
		}
	}
}

// Also where the items that were given share their bytes, those that are answered share none, with each other or with the book.
func TestTheListsOfAPostShareNothing(t *testing.T) {
	p, x := busyPost(t)
	for i := range p.Queue {
		at := bytes.Index(p.Book, p.Queue[i].Bytes)
		p.Queue[i].Bytes = p.Book[at : at+len(p.Queue[i].Bytes)]
	}
	checkPostOk(t, "items that share their bytes with the book", p, true)
	for name, ask := range postAsks(p, x) {
		got, item := ask()
		lists := [][]byte{got.Book, item.Bytes}
		for _, y := range got.Queue {
			lists = append(lists, y.Bytes)
		}
		for i := range lists {
			for j := range lists[:i] {
				checkApart(t, name, lists[i], lists[j])
			}
		}
	}
	checkPostOk(t, "behind all that", p, true)
}

func TestPostsLeaveTheirArgumentsAlone(t *testing.T) {
	p, x := busyPost(t)
	room := someBytes(60)
	x.Bytes = room[20:30]
	// Behind the queue and the book there is room, in which others stand.
	queue, book := append(p.Queue, fullQueue()...), append(p.Book, someBytes(100)...)
	kept, bookKept := clonedItems(queue), bytes.Clone(book)
	for _, ask := range postAsks(p, x) {
		ask()
	}
	impl.PostOk(p)
	for keep := -1; keep < 200; keep++ {
		impl.FallTo(p, keep)
	}
	if !sameItems(queue, kept) || !bytes.Equal(book, bookKept) || !bytes.Equal(room, someBytes(60)) {
		t.Errorf("what was given turned into %s, %x, %x", shown(queue...), book, room)
	}
}

func TestPostsOfManyAtATime(t *testing.T) {
	p, x := busyPost(t)
	type answer struct {
		post impl.Post
		item impl.Item
	}
	want := map[string]answer{}
	for name, ask := range postAsks(p, x) {
		post, item := ask()
		want[name] = answer{post, item}
	}
	var all sync.WaitGroup
	for range 16 {
		all.Go(func() {
			for range 20 {
				for name, ask := range postAsks(p, x) {
					if got, item := ask(); !samePost(got, want[name].post) || !sameItem(item, want[name].item) {
						t.Errorf("%s = %s, %s", name, shownPost(got), shown(item))
					}
				}
			}
		})
	}
	all.Wait()
}

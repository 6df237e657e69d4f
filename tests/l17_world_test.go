package tests

import (
	"bytes"
	"fmt"
	"math"
	"math/rand"
	"slices"
	"strings"
	"sync"
	"testing"

	"loop.example/g00473/impl"
)

func sameWire(a, b impl.Wire) bool {
	return a.ToPost == b.ToPost && sameItem(a.Item, b.Item) && bytes.Equal(a.Bytes, b.Bytes)
}

func sameSent(a, b impl.Sent) bool {
	return a.Route == b.Route && a.Epoch == b.Epoch && bytes.Equal(a.Note, b.Note) && bytes.Equal(a.Bytes, b.Bytes)
}

func sameWorld(a, b impl.World) bool {
	return bytes.Equal(a.Seed, b.Seed) && a.Count == b.Count && a.Known == b.Known && samePost(a.Post, b.Post) && sameReader(a.Reader, b.Reader) &&
		slices.EqualFunc(a.Net, b.Net, sameWire) && slices.EqualFunc(a.Sent, b.Sent, sameSent)
}

func clonedWorld(w impl.World) impl.World {
	other := impl.World{Seed: bytes.Clone(w.Seed), Count: w.Count, Known: w.Known, Post: clonedPost(w.Post), Reader: clonedReader(w.Reader)}
	for _, x := range w.Net {
		other.Net = append(other.Net, impl.Wire{ToPost: x.ToPost, Item: clonedItems([]impl.Item{x.Item})[0], Bytes: bytes.Clone(x.Bytes)})
	}
	for _, s := range w.Sent {
		other.Sent = append(other.Sent, impl.Sent{Route: s.Route, Epoch: s.Epoch, Note: bytes.Clone(s.Note), Bytes: bytes.Clone(s.Bytes)})
	}
	return other
}

// shownWorld tells a world in a line, however much is on its way.
func shownWorld(w impl.World) string {
	var net, sent []string
	for _, x := range w.Net[:min(len(w.Net), 20)] {
		net = append(net, fmt.Sprintf("%t %s %d:%.8x", x.ToPost, shown(x.Item), len(x.Bytes), x.Bytes))
	}
	for _, s := range w.Sent[:min(len(w.Sent), 20)] {
		sent = append(sent, fmt.Sprintf("%.20q %d %.12q %d:%.8x", s.Route, s.Epoch, s.Note, len(s.Bytes), s.Bytes))
	}
	return fmt.Sprintf("{seed %d:%.8x count %d known %d post %s reader %s net %d:%s sent %d:%s}", len(w.Seed), w.Seed, w.Count, w.Known, shownPost(w.Post), shownReader(w.Reader), len(w.Net), net, len(w.Sent), sent)
}

func shownDeed(d impl.Deed) string {
	return fmt.Sprintf("%d %d %d %d:%.12q", d.Kind, d.A, d.B, len(d.Note), d.Note)
}

func deedOf(kind, a int) impl.Deed { return impl.Deed{Kind: kind, A: a} }

func writeOf(topic, delay int, note string) impl.Deed {
	return impl.Deed{Kind: impl.DdWrite, A: topic, B: delay, Note: []byte(note)}
}

// worldFits is WorldOk once more, wire by wire.
func worldFits(w impl.World) bool {
	fits := len(w.Seed) == 32 && 0 <= w.Count && w.Count <= 12 && 0 <= w.Known && w.Known <= 40 && len(w.Net) <= 12 && len(w.Sent) == w.Count
	for _, x := range w.Net {
		if x.ToPost {
			fits = fits && itemFits(x.Item) && len(x.Bytes) == 0
		} else {
			fits = fits && sameItem(x.Item, impl.Item{}) && len(x.Bytes) <= 1560
		}
	}
	for _, s := range w.Sent {
		fits = fits && len(s.Note) <= 200 && itemFits(impl.Item{Route: s.Route, Bytes: s.Bytes}) && 0 <= s.Epoch && s.Epoch <= 40
	}
	return fits && readerFits(w.Reader) && postFits(w.Post)
}

// freshOf is Fresh once more, by the library; it wants a count that is not below 0.
func freshOf(t *testing.T, seed []byte, count int) []byte {
	t.Helper()
	return expandOf(t, extractOf(t, nil, seed), epochText("fresh", count), 32)
}

// writtenBy is DdWrite once more, by the library, of a world that is right.
func writtenBy(t *testing.T, w impl.World, d impl.Deed) (impl.World, int) {
	t.Helper()
	if len(w.Sent) == 12 || len(w.Net) == 12 {
		return w, 4
	}
	keys := libraryKeysAt(t, w.Reader.Seed, w.Known)
	x := impl.Item{Route: keys.route, Topic: d.A, Due: w.Post.Time + d.B}
	if len(d.Note) > 200 || d.B < 0 || d.B > 1000 || !itemFits(x) {
		return w, 3
	}
	l := letterOf(t, freshOf(t, w.Seed, w.Count), []byte(keys.public), w.Known, d.Note)
	x.Bytes = slices.Concat(headOf(w.Known, l.From), l.Box)
	w.Count++
	w.Sent = append(w.Sent, impl.Sent{Route: x.Route, Epoch: w.Known, Note: d.Note, Bytes: x.Bytes})
	w.Net = append(w.Net, impl.Wire{ToPost: true, Item: x})
	return w, 0
}

// wiredBy are DdGive, DdLose and DdTwice once more, of a world that is right.
func wiredBy(t *testing.T, w impl.World, d impl.Deed) (impl.World, int) {
	t.Helper()
	if d.A < 0 || d.A >= len(w.Net) {
		return w, 2
	}
	x := w.Net[d.A]
	if d.Kind == 4 {
		w.Net = append(w.Net, x)
		return w, 4 * (len(w.Net) / 13)
	}
	w.Net = slices.Concat(w.Net[:d.A], w.Net[d.A+1:])
	if d.Kind == 3 {
		return w, 0
	}
	if x.ToPost {
		if after, _, code := doneBy(w.Post, putLine(x.Item)); code == 0 {
			w.Post = after
		}
	} else if after, code := hearBy(t, w.Reader, x.Bytes); code == 0 {
		w.Reader = after
	}
	return w, 0
}

// fetchedBy is DdFetch once more, of a world that is right.
func fetchedBy(t *testing.T, w impl.World, d impl.Deed) (impl.World, int) {
	t.Helper()
	if len(w.Net) == 12 {
		return w, 4
	}
	if d.A != 0 && d.A != 1 {
		return w, 2
	}
	if w.Reader.Epoch < d.A {
		return w, 3
	}
	after, x, code := doneBy(w.Post, takeLine(libraryKeysAt(t, w.Reader.Seed, w.Reader.Epoch-d.A).route))
	if code != 0 {
		return w, 3
	}
	w.Post, w.Net = after, append(w.Net, impl.Wire{Bytes: x.Bytes})
	return w, 0
}

// movedBy are the others once more, of a world that is right.
func movedBy(w impl.World, d impl.Deed) (impl.World, int) {
	switch d.Kind {
	case 6:
		w.Post.Sure = len(w.Post.Book)
	case 7:
		w.Post = fallBy(w.Post, d.A)
	case 8:
		if d.A < 0 || d.A > 100000 {
			return w, 3
		}
		after, _, code := doneBy(w.Post, timeLine(w.Post.Time+d.A))
		if code != 0 {
			return w, 3
		}
		w.Post = after
	case 9:
		if w.Reader.Epoch == 40 {
			return w, 3
		}
		w.Reader.Epoch++
	case 10:
		w.Known = w.Reader.Epoch
	}
	return w, 0
}

// turnedBy is Do once more.
func turnedBy(t *testing.T, w impl.World, d impl.Deed) (after impl.World, code int) {
	t.Helper()
	if !worldFits(w) || d.Kind < 1 || d.Kind > 10 {
		return impl.World{}, 1
	}
	switch d.Kind {
	case 1:
		after, code = writtenBy(t, clonedWorld(w), d)
	case 2, 3, 4:
		after, code = wiredBy(t, clonedWorld(w), d)
	case 5:
		after, code = fetchedBy(t, clonedWorld(w), d)
	default:
		after, code = movedBy(clonedWorld(w), d)
	}
	if code != 0 {
		return w, code
	}
	return after, 0
}

func checkWorldOk(t *testing.T, what string, w impl.World, want bool) {
	t.Helper()
	if got := impl.WorldOk(w); got != want || worldFits(w) != want {
		t.Fatalf("%s: WorldOk(%s) = %t, want %t", what, shownWorld(w), got, want)
	}
}

// checkTurned holds what is answered; it hands on the world behind it, which is the old one beside CdBad too.
func checkTurned(t *testing.T, what string, w impl.World, d impl.Deed) (impl.World, int) {
	t.Helper()
	want, wantCode := turnedBy(t, w, d)
	after, code := impl.Do(w, d)
	if code != wantCode || !sameWorld(after, want) {
		t.Fatalf("%s: %s of %s = %s, %d, want %s, %d", what, shownDeed(d), shownWorld(w), shownWorld(after), code, shownWorld(want), wantCode)
	}
	if code == impl.CdBad {
		return w, code
	}
	checkWorldOk(t, what, after, true)
	return after, code
}

// checkDo holds which code is answered, too, and what is beside one that refuses.
func checkDo(t *testing.T, what string, w impl.World, d impl.Deed, want int) impl.World {
	t.Helper()
	after, code := checkTurned(t, what, w, d)
	if code != want {
		t.Fatalf("%s: %s of %s is answered by %d, want %d", what, shownDeed(d), shownWorld(w), code, want)
	}
	beside := w
	if code == impl.CdBad {
		beside = impl.World{}
	}
	if got, _ := impl.Do(w, d); code != impl.CdDone && !sameWorld(got, beside) {
		t.Fatalf("%s: beside %d there is %s, want %s", what, code, shownWorld(got), shownWorld(beside))
	}
	return after
}

func checkAllDone(t *testing.T, what string, w impl.World, list ...impl.Deed) impl.World {
	t.Helper()
	for i, d := range list {
		w = checkDo(t, fmt.Sprint(what, ", deed ", i), w, d, impl.CdDone)
	}
	return w
}

// checkAll holds a run against its deeds one behind the other.
func checkAll(t *testing.T, what string, w impl.World, list []impl.Deed) (impl.World, []int) {
	t.Helper()
	want, wantCodes := w, []int{}
	for _, d := range list {
		after, code := checkTurned(t, what, want, d)
		want, wantCodes = after, append(wantCodes, code)
	}
	got, codes := impl.DoAll(w, list)
	if !slices.Equal(codes, wantCodes) || !sameWorld(got, want) {
		t.Fatalf("%s: %d deeds of %s = %s, %d, want %s, %d", what, len(list), shownWorld(w), shownWorld(got), codes, shownWorld(want), wantCodes)
	}
	return got, codes
}

// checkNoRun holds what is answered where no deed is done.
func checkNoRun(t *testing.T, what string, w impl.World, list []impl.Deed) {
	t.Helper()
	if got, codes := impl.DoAll(w, list); len(codes) != 0 || !sameWorld(got, w) {
		t.Fatalf("%s: %d deeds of %s = %s, %d", what, len(list), shownWorld(w), shownWorld(got), codes)
	}
}

// eachKind has a deed of each kind, which on a busy world is done.
func eachKind() []impl.Deed {
	return []impl.Deed{
		writeOf(1, 5, "one more"), deedOf(impl.DdGive, 0), deedOf(impl.DdLose, 0), deedOf(impl.DdTwice, 0), deedOf(impl.DdFetch, 0),
		deedOf(impl.DdSure, 0), deedOf(impl.DdFall, 0), deedOf(impl.DdTick, 1), deedOf(impl.DdNext, 0), deedOf(impl.DdLearn, 0),
	}
}

// checkNoWorld holds what is answered of a world that is not right.
func checkNoWorld(t *testing.T, what string, w impl.World) {
	t.Helper()
	checkWorldOk(t, what, w, false)
	for _, d := range eachKind() {
		checkDo(t, what, w, d, impl.CdBad)
	}
	checkDo(t, what, w, impl.Deed{}, impl.CdBad)
	checkNoRun(t, what, w, eachKind())
	checkNoRun(t, what, w, nil)
}

func newWorld(t *testing.T) impl.World {
	t.Helper()
	w, ok := impl.WorldNew(alike(1), alike(2))
	if want := (impl.World{Seed: alike(1), Reader: impl.Reader{Seed: alike(2)}}); !ok || !sameWorld(w, want) {
		t.Fatalf("WorldNew = %s, %t", shownWorld(w), ok)
	}
	return w
}

// busyWorld has something of all: sent notes, wires to both, items that wait, sure bytes, and a reader that has read.
func busyWorld(t *testing.T) impl.World {
	t.Helper()
	return checkAllDone(t, "busy", newWorld(t),
		writeOf(1, 50, "one"), writeOf(2, 60, "two"), writeOf(0, 70, "three"), deedOf(impl.DdGive, 0), deedOf(impl.DdGive, 0), deedOf(impl.DdGive, 0),
		deedOf(impl.DdFetch, 0), deedOf(impl.DdTwice, 0), deedOf(impl.DdSure, 0), deedOf(impl.DdGive, 0), deedOf(impl.DdTick, 2), writeOf(3, 5, "four"))
}

// netOf are so many wires, to the post and to the reader by turns, none of which the reader can read.
func netOf(many int) []impl.Wire {
	var net []impl.Wire
	for i := range many {
		if i%2 == 0 {
			net = append(net, impl.Wire{ToPost: true, Item: dueAt(itemOf(routeA, i%10, fmt.Sprint("item ", i)), 90)})
		} else {
			net = append(net, impl.Wire{Bytes: fmt.Append(nil, "bytes ", i)})
		}
	}
	return net
}

func sentOf(many int) []impl.Sent {
	var sent []impl.Sent
	for i := range many {
		sent = append(sent, impl.Sent{Route: routeB, Epoch: i, Note: fmt.Append(nil, "note ", i), Bytes: fmt.Append(nil, "bytes ", i)})
	}
	return sent
}

// worldOf is right but, perhaps, for how many are sent or on their way.
func worldOf(t *testing.T, sent, net int) impl.World {
	t.Helper()
	w := newWorld(t)
	w.Count, w.Sent, w.Net = sent, sentOf(sent), netOf(net)
	return w
}

func TestWorldLimits(t *testing.T) {
	if got := []int{impl.MaxNet, impl.MaxSent, impl.MaxDeeds}; !slices.Equal(got, []int{12, 12, 100}) {
		t.Error("the limits are", got)
	}
	kinds := []int{impl.DdWrite, impl.DdGive, impl.DdLose, impl.DdTwice, impl.DdFetch, impl.DdSure, impl.DdFall, impl.DdTick, impl.DdNext, impl.DdLearn}
	if !slices.Equal(kinds, []int{1, 2, 3, 4, 5, 6, 7, 8, 9, 10}) {
		t.Error("the kinds are", kinds)
	}
	if codes := []int{impl.CdDone, impl.CdBad, impl.CdNone, impl.CdIdle, impl.CdFull}; !slices.Equal(codes, []int{0, 1, 2, 3, 4}) {
		t.Error("the codes are", codes)
	}
}

func TestANewWorld(t *testing.T) {
	checkWorldOk(t, "a new one", newWorld(t), true)
	seeds := append(edgeKeys(), alike(7))
	for i, writer := range seeds {
		reader := seeds[len(seeds)-1-i]
		w, ok := impl.WorldNew(writer, reader)
		if want := (impl.World{Seed: writer, Reader: impl.Reader{Seed: reader}}); !ok || !sameWorld(w, want) {
			t.Fatalf("WorldNew(%x, %x) = %s, %t", writer, reader, shownWorld(w), ok)
		}
		checkWorldOk(t, "a new one", w, true)
	}
	none := [][]byte{nil, someBytes(64)[:31], someBytes(64)[:33], alike(2)[:31]}
	for _, many := range noSeedSizes {
		none = append(none, someBytes(many))
	}
	for _, seed := range none {
		for _, pair := range [][2][]byte{{seed, alike(2)}, {alike(1), seed}, {seed, seed}} {
			if w, ok := impl.WorldNew(pair[0], pair[1]); ok || !sameWorld(w, impl.World{}) {
				t.Fatalf("WorldNew of %d and %d bytes = %s, %t, want zero and false", len(pair[0]), len(pair[1]), shownWorld(w), ok)
			}
		}
	}
}

// Fresh of each Count has 32 bytes, and no two are alike: a key that wrote one letter writes no other.
func TestFreshOfEachCount(t *testing.T) {
	seen := map[string]int{}
	for _, seed := range [][]byte{alike(1), alike(2), someBytes(32), make([]byte, 32), ones32()} {
		for count := range impl.MaxSent + 1 {
			w := worldOf(t, count, 3)
			w.Seed = seed
			got := impl.Fresh(w)
			if want := freshOf(t, seed, count); !bytes.Equal(got, want) || len(got) != 32 {
				t.Fatalf("Fresh of %x at %d = %x, want %x", seed, count, got, want)
			}
			seen[string(got)]++
		}
	}
	if len(seen) != 5*13 {
		t.Errorf("of %d there are %d", 5*13, len(seen))
	}
}

// Fresh asks for Seed and Count alone, also of what is not WorldOk.
func TestFreshOfOthers(t *testing.T) {
	for _, count := range []int{0, 1, 12, 13, 255, 256, 257, 65535} {
		for _, many := range []int{0, 1, 31, 32, 33, 64, 65, 400, maxMac} {
			seed := someBytes(many)
			if got, want := impl.Fresh(impl.World{Seed: seed, Count: count}), freshOf(t, seed, count); !bytes.Equal(got, want) {
				t.Fatalf("Fresh of %d bytes at %d = %x, want %x", many, count, got, want)
			}
		}
	}
	// Two bytes tell what is left of a count that is too great, and nothing of one below 0.
	for _, count := range []int{65536, 65537, 1 << 32, math.MaxInt} {
		if got, want := impl.Fresh(impl.World{Seed: alike(1), Count: count}), freshOf(t, alike(1), count); !bytes.Equal(got, want) {
			t.Errorf("Fresh at %d = %x, want %x", count, got, want)
		}
	}
	for _, count := range []int{-1, -65536, math.MinInt} {
		want := expandOf(t, extractOf(t, nil, alike(1)), []byte("fresh"), 32)
		if got := impl.Fresh(impl.World{Seed: alike(1), Count: count}); !bytes.Equal(got, want) {
			t.Errorf("Fresh at %d = %x, want %x", count, got, want)
		}
	}
	// Of what is too long for a code there is none, and Derive goes on with nothing, as it does elsewhere.
	for _, many := range []int{maxMac + 1, 70000} {
		if got, want := impl.Fresh(impl.World{Seed: someBytes(many)}), expandOf(t, nil, epochText("fresh", 0), 32); !bytes.Equal(got, want) {
			t.Errorf("Fresh of %d bytes = %x, want %x", many, got, want)
		}
	}
}

// The way of a note, told place by place.
func TestANoteFromTheWriterToTheReader(t *testing.T) {
	seed := alike(2)
	route := libraryKeysAt(t, seed, 0).route
	l := letterOf(t, freshOf(t, alike(1), 0), []byte(libraryKeysAt(t, seed, 0).public), 0, []byte("hello"))
	letter := slices.Concat(headOf(0, l.From), l.Box)
	item := impl.Item{Route: route, Topic: 4, Due: 50, Bytes: letter}
	want := newWorld(t)

	w := checkDo(t, "it is written", newWorld(t), writeOf(4, 50, "hello"), impl.CdDone)
	want.Count, want.Sent = 1, []impl.Sent{{Route: route, Note: []byte("hello"), Bytes: letter}}
	want.Net = []impl.Wire{{ToPost: true, Item: item}}
	if !sameWorld(w, want) {
		t.Fatalf("written: %s, want %s", shownWorld(w), shownWorld(want))
	}
	w = checkDo(t, "the post has it", w, deedOf(impl.DdGive, 0), impl.CdDone)
	want.Net, want.Post.Queue, want.Post.Book = nil, []impl.Item{item}, lineBytesBy(putLine(item))
	if !sameWorld(w, want) {
		t.Fatalf("at the post: %s, want %s", shownWorld(w), shownWorld(want))
	}
	w = checkDo(t, "it is fetched", w, deedOf(impl.DdFetch, 0), impl.CdDone)
	want.Net, want.Post.Queue, want.Post.Book = []impl.Wire{{Bytes: letter}}, nil, append(want.Post.Book, lineBytesBy(takeLine(route))...)
	if !sameWorld(w, want) {
		t.Fatalf("fetched: %s, want %s", shownWorld(w), shownWorld(want))
	}
	w = checkDo(t, "the reader has it", w, deedOf(impl.DdGive, 0), impl.CdDone)
	want.Net, want.Reader.Seen, want.Reader.Got = nil, [][]byte{letter}, [][]byte{[]byte("hello")}
	if !sameWorld(w, want) {
		t.Fatalf("read: %s, want %s", shownWorld(w), shownWorld(want))
	}
}

// Promise 17: of what is not lost each note arrives as it was, whatever it has.
func TestWhatIsNotLostArrivesAsItWas(t *testing.T) {
	for _, many := range noteEdges {
		for topic, note := range notesOf(many) {
			w := checkAllDone(t, "a note", newWorld(t), impl.Deed{Kind: impl.DdWrite, A: topic, B: 1000, Note: note}, deedOf(impl.DdGive, 0), deedOf(impl.DdFetch, 0), deedOf(impl.DdGive, 0))
			if !sameLists(w.Reader.Got, [][]byte{note}) || !bytes.Equal(w.Sent[0].Note, note) || !sameLists(w.Reader.Seen, [][]byte{w.Sent[0].Bytes}) {
				t.Fatalf("of %x there is %s", note, shownWorld(w))
			}
		}
	}
	w := newWorld(t)
	var notes [][]byte
	for i := range impl.MaxSent {
		note := fmt.Append(nil, "note ", i)
		w = checkAllDone(t, "one behind the other", w, impl.Deed{Kind: impl.DdWrite, A: i % 10, B: i, Note: note}, deedOf(impl.DdGive, 0), deedOf(impl.DdFetch, 0), deedOf(impl.DdGive, 0))
		notes = append(notes, note)
	}
	if !sameLists(w.Reader.Got, notes) || len(w.Net) != 0 || len(w.Post.Queue) != 0 {
		t.Fatalf("at the end there is %s", shownWorld(w))
	}
	checkDo(t, "one more", w, writeOf(1, 1, "one more"), impl.CdFull)
}

// Each letter is by a key of its own, also where all else is as it was.
func TestNoTwoLettersAreAlike(t *testing.T) {
	w := newWorld(t)
	seen := map[string]int{}
	for range impl.MaxSent {
		w = checkAllDone(t, "the note again", w, writeOf(1, 9, "note"), deedOf(impl.DdGive, 0))
	}
	for _, s := range w.Sent {
		seen[string(s.Bytes)]++
		seen[string(s.Bytes[3:35])]++
	}
	if len(seen) != 2*impl.MaxSent || len(w.Post.Queue) != 1 || !bytes.Equal(w.Post.Queue[0].Bytes, w.Sent[11].Bytes) {
		t.Errorf("there are %d unlike ones, and at the end %s", len(seen), shownWorld(w))
	}
}

// A letter of the epoch ahead of the reader's is fetched from its route and read; behind one more epoch it is neither.
func TestNotesOfTheEpochAheadOfTheReaders(t *testing.T) {
	give, next := deedOf(impl.DdGive, 0), deedOf(impl.DdNext, 0)
	w := checkAllDone(t, "written", newWorld(t), writeOf(1, 50, "old"), give, next)
	checkDo(t, "it does not wait at the new route", w, deedOf(impl.DdFetch, 0), impl.CdIdle)
	w = checkAllDone(t, "not learnt", w, writeOf(2, 50, "still old"), give)
	if w.Sent[1].Epoch != 0 || w.Sent[1].Route != w.Sent[0].Route || w.Known != 0 {
		t.Fatalf("who has not learnt wrote %s", shownWorld(w))
	}
	w = checkAllDone(t, "learnt", w, deedOf(impl.DdLearn, 0), writeOf(3, 50, "new"), give)
	if w.Known != 1 || w.Sent[2].Epoch != 1 || w.Sent[2].Route == w.Sent[0].Route {
		t.Fatalf("who has learnt wrote %s", shownWorld(w))
	}
	read := checkAllDone(t, "by both routes", w, deedOf(impl.DdFetch, 1), give, deedOf(impl.DdFetch, 0), give, deedOf(impl.DdFetch, 1), give)
	if got := fmt.Sprintf("%s", read.Reader.Got); got != "[old new still old]" {
		t.Fatalf("it got %s", got)
	}
	w = checkAllDone(t, "fetched, but given too late", w, deedOf(impl.DdFetch, 1), next, give)
	if len(w.Reader.Got) != 0 || len(w.Net) != 0 {
		t.Fatalf("too late: %s", shownWorld(w))
	}
	checkDo(t, "now nothing waits at its route", w, deedOf(impl.DdFetch, 0), impl.CdIdle)
	w = checkAllDone(t, "the new one is now the old one", w, deedOf(impl.DdFetch, 1), give)
	if got := fmt.Sprintf("%s", w.Reader.Got); got != "[new]" {
		t.Fatalf("it got %s", got)
	}
	checkDo(t, "and the first one waits for nobody", w, deedOf(impl.DdFetch, 1), impl.CdIdle)
}

// Who writes may know each epoch, also one that is none of the reader's.
func TestNotesOfEachKnownEpoch(t *testing.T) {
	for known := range impl.MaxEpoch + 1 {
		w := newWorld(t)
		w.Known, w.Reader.Epoch = known, (known+1)%(impl.MaxEpoch+1)
		w = checkAllDone(t, "written", w, writeOf(1, 5, "note"), deedOf(impl.DdGive, 0))
		if w.Sent[0].Epoch != known || w.Post.Queue[0].Route != libraryKeysAt(t, alike(2), known).route {
			t.Fatalf("of %d there is %s", known, shownWorld(w))
		}
		want := impl.CdDone
		if known == impl.MaxEpoch {
			want = impl.CdIdle
		}
		w = checkDo(t, fmt.Sprint("of ", known), w, deedOf(impl.DdFetch, 1), want)
		w, _ = checkTurned(t, "given", w, deedOf(impl.DdGive, 0))
		if len(w.Reader.Got) == 1 != (known < impl.MaxEpoch) {
			t.Fatalf("of %d there is %s", known, shownWorld(w))
		}
	}
	w := newWorld(t)
	w.Reader.Epoch = 3
	l := letterFor(t, 1, alike(2), 4, "early")
	w.Net = []impl.Wire{{Bytes: l}}
	if w = checkDo(t, "an epoch to come", w, deedOf(impl.DdGive, 0), impl.CdDone); len(w.Reader.Got) != 0 {
		t.Fatalf("early: %s", shownWorld(w))
	}
}

func TestWiresThatAreLostOrThereTwice(t *testing.T) {
	w := worldOf(t, 0, 6)
	for a, x := range w.Net {
		others := slices.Concat(w.Net[:a], w.Net[a+1:])
		lost := checkDo(t, "lost", w, deedOf(impl.DdLose, a), impl.CdDone)
		given := checkDo(t, "given", w, deedOf(impl.DdGive, a), impl.CdDone)
		twice := checkDo(t, "twice", w, deedOf(impl.DdTwice, a), impl.CdDone)
		if !slices.EqualFunc(lost.Net, others, sameWire) || !slices.EqualFunc(given.Net, others, sameWire) || !slices.EqualFunc(twice.Net, append(netOf(6), x), sameWire) {
			t.Fatalf("wire %d: %s, %s, %s", a, shownWorld(lost), shownWorld(given), shownWorld(twice))
		}
		if len(lost.Post.Queue) != 0 || len(lost.Post.Book) != 0 || len(given.Post.Queue) == 1 != x.ToPost || len(twice.Post.Queue) != 0 {
			t.Fatalf("wire %d: %s, %s, %s", a, shownWorld(lost), shownWorld(given), shownWorld(twice))
		}
	}
	give := deedOf(impl.DdGive, 0)
	w = checkAllDone(t, "lost for good", newWorld(t), writeOf(1, 5, "note"), deedOf(impl.DdLose, 0))
	checkDo(t, "it waits nowhere", w, deedOf(impl.DdFetch, 0), impl.CdIdle)
	checkDo(t, "it is not on its way", w, give, impl.CdNone)
	// Twice to the post: of a topic one waits, of none both, and the reader reads it once.
	for topic, want := range []int{2, 1} {
		w = checkAllDone(t, "twice to the post", newWorld(t), writeOf(topic, 5, "note"), deedOf(impl.DdTwice, 0), give, give)
		if len(w.Post.Queue) != want {
			t.Fatalf("of topic %d there is %s", topic, shownWorld(w))
		}
		for range want {
			w = checkAllDone(t, "fetched", w, deedOf(impl.DdFetch, 0), deedOf(impl.DdTwice, 0), give, give)
		}
		if got := fmt.Sprintf("%s", w.Reader.Got); got != "[note]" || len(w.Net) != 0 {
			t.Fatalf("of topic %d there is %s", topic, shownWorld(w))
		}
	}
}

// What is given but not taken in is on its way no more, and turns nothing else.
func TestWhatIsGivenButNotTakenIn(t *testing.T) {
	crowded, full, late := newWorld(t), newWorld(t), newWorld(t)
	var lines []impl.Line
	for _, x := range fullQueue() {
		lines = append(lines, putLine(x))
	}
	crowded.Post, full.Post, late.Post = postOf(t, lines...), longPost(t, impl.MaxBook), postOf(t, timeLine(9))
	full.Reader = soManySeen(impl.MaxSeen)
	crowded.Reader = checkHear(t, "heard", crowded.Reader, letterFor(t, 1, alike(2), 0, "heard"), impl.RdDone)
	late.Reader.Epoch = 5
	toPost := func(x impl.Item) impl.Wire { return impl.Wire{ToPost: true, Item: x} }
	for what, c := range map[string]struct {
		w impl.World
		x impl.Wire
	}{
		"the queue has no room":     {crowded, toPost(itemOf(routeC, 3, "x"))},
		"the route has no room":     {crowded, toPost(itemOf(routeA, 0, "x"))},
		"the book has no room":      {full, toPost(dueAt(itemOf(routeC, 3, "x"), 50))},
		"it is too late":            {late, toPost(dueAt(itemOf(routeC, 3, "x"), 8))},
		"no letter":                 {crowded, impl.Wire{Bytes: []byte("none")}},
		"nothing":                   {crowded, impl.Wire{}},
		"a letter once more":        {crowded, impl.Wire{Bytes: crowded.Reader.Seen[0]}},
		"an old letter":             {late, impl.Wire{Bytes: letterFor(t, 1, alike(2), 3, "x")}},
		"the reader has no room":    {full, impl.Wire{Bytes: letterFor(t, 1, alike(2), 1, "x")}},
		"a letter for another seed": {crowded, impl.Wire{Bytes: letterFor(t, 1, alike(3), 0, "x")}},
	} {
		for _, a := range []int{0, 2, 5} {
			w := clonedWorld(c.w)
			w.Net = slices.Insert(netOf(5), a, c.x)
			after := checkDo(t, what, w, deedOf(impl.DdGive, a), impl.CdDone)
			w.Net = netOf(5)
			if !sameWorld(after, w) {
				t.Fatalf("%s: %s, want %s", what, shownWorld(after), shownWorld(w))
			}
		}
	}
	if w := checkDo(t, "just due", worldWith(late, toPost(dueAt(itemOf(routeC, 3, "x"), 9))), deedOf(impl.DdGive, 0), impl.CdDone); len(w.Post.Queue) != 1 {
		t.Errorf("just due: %s", shownWorld(w))
	}
}

// worldWith is the world with those wires alone.
func worldWith(w impl.World, net ...impl.Wire) impl.World {
	w.Net = net
	return w
}

func TestAPostThatIsMadeSureAndFalls(t *testing.T) {
	give, fetch := deedOf(impl.DdGive, 0), deedOf(impl.DdFetch, 0)
	sure := checkAllDone(t, "sure", newWorld(t), writeOf(1, 50, "one"), give, deedOf(impl.DdSure, 0))
	w := checkAllDone(t, "not sure", sure, writeOf(2, 50, "two"), give, deedOf(impl.DdTick, 3), fetch)
	if w.Post.Sure != len(sure.Post.Book) || len(w.Post.Book) <= w.Post.Sure || w.Post.Time != 3 {
		t.Fatalf("not all is sure: %s", shownWorld(w))
	}
	for keep := -3; keep < len(w.Post.Book)-w.Post.Sure+3; keep++ {
		after := checkDo(t, "a fall", w, deedOf(impl.DdFall, keep), impl.CdDone)
		if want := fallBy(w.Post, keep); !samePost(after.Post, want) || !sameWorld(after, worldWithPost(w, want)) {
			t.Fatalf("%d are kept: %s", keep, shownWorld(after))
		}
	}
	for _, keep := range []int{math.MinInt, -impl.MaxBook, -1, 0} {
		fallen := checkDo(t, "a fall", w, deedOf(impl.DdFall, keep), impl.CdDone)
		if !samePost(fallen.Post, sure.Post) {
			t.Fatalf("%d are kept: %s", keep, shownWorld(fallen))
		}
		// The first one waits again, though it is on its way already: the reader reads it once.
		read := checkAllDone(t, "it goes on", fallen, give, fetch, give)
		if got := fmt.Sprintf("%s", read.Reader.Got); got != "[one]" {
			t.Fatalf("%d are kept: it got %s", keep, got)
		}
	}
	for _, keep := range []int{len(w.Post.Book) - w.Post.Sure, impl.MaxBook, math.MaxInt} {
		fallen := checkDo(t, "a fall", w, deedOf(impl.DdFall, keep), impl.CdDone)
		if !sameWorld(fallen, checkDo(t, "all are sure", w, deedOf(impl.DdSure, 0), impl.CdDone)) {
			t.Fatalf("%d are kept: %s", keep, shownWorld(fallen))
		}
	}
	for _, d := range []impl.Deed{deedOf(impl.DdSure, 0), deedOf(impl.DdSure, 7), deedOf(impl.DdFall, 0), deedOf(impl.DdFall, 5)} {
		if again := checkDo(t, "once more", sure, d, impl.CdDone); !sameWorld(again, sure) {
			t.Fatalf("once more: %s", shownWorld(again))
		}
	}
}

func worldWithPost(w impl.World, p impl.Post) impl.World {
	w.Post = p
	return w
}

func TestWorldsOverTime(t *testing.T) {
	give := deedOf(impl.DdGive, 0)
	w := checkAllDone(t, "written", newWorld(t), deedOf(impl.DdTick, 7), writeOf(1, 3, "short"), writeOf(2, 4, "longer"), give, give)
	if w.Post.Queue[0].Due != 10 || w.Post.Queue[1].Due != 11 {
		t.Fatalf("due at %s", shownWorld(w))
	}
	for more, want := range []int{2, 2, 2, 2, 1, 0} {
		if after := checkDo(t, "later", w, deedOf(impl.DdTick, more), impl.CdDone); len(after.Post.Queue) != want || after.Post.Time != 7+more {
			t.Fatalf("%d later: %s", more, shownWorld(after))
		}
	}
	for _, more := range []int{-1, -7, -8, math.MinInt, impl.MaxTime - 6, impl.MaxTime, 1 << 32, math.MaxInt - 7, math.MaxInt - 6, math.MaxInt - 1, math.MaxInt} {
		checkDo(t, "no time", w, deedOf(impl.DdTick, more), impl.CdIdle)
	}
	end := checkDo(t, "the end", w, deedOf(impl.DdTick, impl.MaxTime-7), impl.CdDone)
	if end.Post.Time != impl.MaxTime {
		t.Fatalf("at the end: %s", shownWorld(end))
	}
	checkDo(t, "at the end", end, deedOf(impl.DdTick, 0), impl.CdDone)
	checkDo(t, "behind the end", end, deedOf(impl.DdTick, 1), impl.CdIdle)
	full := worldWithPost(newWorld(t), longPost(t, impl.MaxBook-17))
	for _, more := range []int{0, 1} {
		checkDo(t, "the book has no room", full, deedOf(impl.DdTick, more), impl.CdIdle)
	}
}

func TestWritesAtTheEdges(t *testing.T) {
	for _, time := range []int{0, 5, impl.MaxTime - 1000, impl.MaxTime - 999, impl.MaxTime - 1, impl.MaxTime} {
		w := checkDo(t, "a time", newWorld(t), deedOf(impl.DdTick, time), impl.CdDone)
		for _, delay := range []int{0, 1, 2, 999, 1000, -1, -2, -time - 1, 1001, 1002, 1 << 32, math.MinInt, math.MaxInt, math.MaxInt - time} {
			want := impl.CdDone
			if delay < 0 || delay > 1000 || time+delay > impl.MaxTime {
				want = impl.CdIdle
			}
			after := checkDo(t, fmt.Sprint("at ", time, ", ", delay, " later"), w, writeOf(1, delay, "x"), want)
			if want == impl.CdDone && after.Net[0].Item.Due != time+delay {
				t.Fatalf("at %d, %d later: %s", time, delay, shownWorld(after))
			}
		}
	}
	w := newWorld(t)
	for topic := range 10 {
		if after := checkDo(t, "a topic", w, writeOf(topic, 1, "x"), impl.CdDone); after.Net[0].Item.Topic != topic {
			t.Fatalf("of topic %d: %s", topic, shownWorld(after))
		}
	}
	for _, topic := range noTopics {
		checkDo(t, "no topic", w, writeOf(topic, 1, "x"), impl.CdIdle)
	}
	for _, many := range []int{199, 200} {
		checkDo(t, "a note", w, writeOf(1, 1, strings.Repeat("x", many)), impl.CdDone)
	}
	for _, many := range []int{201, 202, 256, 1500, 65536, 1 << 20} {
		checkDo(t, "no note", w, writeOf(1, 1, strings.Repeat("x", many)), impl.CdIdle)
	}
}

func TestWritesWithoutRoom(t *testing.T) {
	for _, many := range []int{0, 1, 11} {
		for _, net := range []int{0, 1, 11} {
			checkDo(t, "there is room", worldOf(t, many, net), writeOf(1, 1, "x"), impl.CdDone)
		}
		checkDo(t, "the net has none", worldOf(t, many, 12), writeOf(1, 1, "x"), impl.CdFull)
		checkDo(t, "12 are sent", worldOf(t, 12, many), writeOf(1, 1, "x"), impl.CdFull)
	}
	// No room is the first reason, whatever else there is.
	for _, d := range []impl.Deed{writeOf(10, 1, "x"), writeOf(-1, 1, "x"), writeOf(1, -1, "x"), writeOf(1, 1001, "x"), writeOf(1, 1, strings.Repeat("x", 201))} {
		checkDo(t, "the net has none, and idle", worldOf(t, 3, 12), d, impl.CdFull)
		checkDo(t, "12 are sent, and idle", worldOf(t, 12, 3), d, impl.CdFull)
		checkDo(t, "none has any, and idle", worldOf(t, 12, 12), d, impl.CdFull)
		checkDo(t, "idle alone", worldOf(t, 11, 11), d, impl.CdIdle)
	}
}

func TestWiresThatAreNotThere(t *testing.T) {
	for _, kind := range []int{impl.DdGive, impl.DdLose, impl.DdTwice} {
		for _, net := range []int{0, 1, 2, 11, 12} {
			w := worldOf(t, 2, net)
			for _, a := range []int{-1, -2, -net, -net - 1, net, net + 1, 13, 256, 1 << 32, math.MinInt, math.MaxInt} {
				if a < 0 || a >= net {
					checkDo(t, "no wire", w, deedOf(kind, a), impl.CdNone)
				}
			}
			for a := range net {
				want := impl.CdDone
				if kind == impl.DdTwice && net == 12 {
					want = impl.CdFull
				}
				checkDo(t, "a wire", w, deedOf(kind, a), want)
			}
		}
	}
}

func TestFetchesAtTheEdges(t *testing.T) {
	w := busyWorld(t)
	crowded := clonedWorld(w)
	crowded.Net = netOf(12)
	last := clonedWorld(w)
	last.Net = netOf(11)
	for _, a := range []int{-1, -2, 2, 3, 40, 256, 1 << 32, math.MinInt, math.MaxInt} {
		checkDo(t, "no route", w, deedOf(impl.DdFetch, a), impl.CdNone)
		checkDo(t, "no route, and nothing waits", newWorld(t), deedOf(impl.DdFetch, a), impl.CdNone)
		checkDo(t, "no route, and no room", crowded, deedOf(impl.DdFetch, a), impl.CdFull)
	}
	checkDo(t, "no epoch is ahead of the first one", w, deedOf(impl.DdFetch, 1), impl.CdIdle)
	checkDo(t, "no room", crowded, deedOf(impl.DdFetch, 0), impl.CdFull)
	checkDo(t, "no room, and nothing waits", worldOf(t, 0, 12), deedOf(impl.DdFetch, 0), impl.CdFull)
	checkDo(t, "nothing waits", worldOf(t, 0, 11), deedOf(impl.DdFetch, 0), impl.CdIdle)
	checkDo(t, "room for one", last, deedOf(impl.DdFetch, 0), impl.CdDone)
	full := worldWithPost(newWorld(t), longPost(t, impl.MaxBook))
	route := libraryKeysAt(t, alike(2), 0).route
	full.Post = postOf(t, append([]impl.Line{putLine(dueAt(itemOf(route, 1, "x"), 9))}, slices.Repeat([]impl.Line{timeLine(3)}, 665)...)...)
	if len(full.Post.Book) <= impl.MaxBook-18 {
		t.Fatalf("there is room in %s", shownWorld(full))
	}
	checkDo(t, "the book has no room", full, deedOf(impl.DdFetch, 0), impl.CdIdle)
	checkDo(t, "the book has no room, and none waits", full, deedOf(impl.DdFetch, 1), impl.CdIdle)
	// Bytes that are no letter are fetched all the same, as many as an item has.
	for _, many := range bytesEdges {
		w := newWorld(t)
		w.Post = postOf(t, putLine(impl.Item{Route: route, Due: 9, Bytes: someBytes(many)}))
		w = checkDo(t, "any bytes", w, deedOf(impl.DdFetch, 0), impl.CdDone)
		if len(w.Net) != 1 || w.Net[0].ToPost || !bytes.Equal(w.Net[0].Bytes, someBytes(many)) {
			t.Fatalf("of %d bytes there is %s", many, shownWorld(w))
		}
	}
}

// What was learnt is known until it is learnt anew, and the epochs end at MaxEpoch.
func TestEpochsOfAWorld(t *testing.T) {
	w := newWorld(t)
	for epoch := range impl.MaxEpoch {
		w = checkDo(t, "next", w, deedOf(impl.DdNext, epoch), impl.CdDone)
		if w.Reader.Epoch != epoch+1 || w.Known > epoch {
			t.Fatalf("behind %d: %s", epoch, shownWorld(w))
		}
		if epoch%3 == 0 {
			w = checkDo(t, "learnt", w, deedOf(impl.DdLearn, -epoch), impl.CdDone)
		}
		if w.Known != epoch/3*3+1 {
			t.Fatalf("behind %d it is known: %s", epoch, shownWorld(w))
		}
	}
	for range 3 {
		w = checkDo(t, "behind the last one", w, deedOf(impl.DdNext, 0), impl.CdIdle)
	}
	w = checkDo(t, "the last one", w, deedOf(impl.DdLearn, 0), impl.CdDone)
	if w.Known != impl.MaxEpoch {
		t.Fatalf("at the end: %s", shownWorld(w))
	}
	w.Reader.Epoch = 3
	if w = checkDo(t, "an epoch that is less", w, deedOf(impl.DdLearn, 0), impl.CdDone); w.Known != 3 {
		t.Fatalf("less: %s", shownWorld(w))
	}
}

func TestKindsThatAreNone(t *testing.T) {
	for _, w := range []impl.World{newWorld(t), busyWorld(t), worldOf(t, 12, 12), {}, worldOf(t, 13, 0)} {
		for _, kind := range []int{0, 11, -1, -2, 12, 99, 100, 255, 256, 257, 1 << 32, 1<<32 + 1, math.MinInt, math.MaxInt} {
			for _, a := range []int{0, 1, -1} {
				checkDo(t, "no kind", w, impl.Deed{Kind: kind, A: a, B: 1, Note: []byte("x")}, impl.CdBad)
			}
		}
	}
	for _, d := range eachKind() {
		checkDo(t, "a kind", busyWorld(t), d, impl.CdDone)
	}
}

// worldFaults each make a busy world one that is not right.
func worldFaults(t *testing.T) map[string]func(w *impl.World) {
	t.Helper()
	letter := letterFor(t, 1, alike(2), 0, "x")
	faults := map[string]func(w *impl.World){
		"nothing":               func(w *impl.World) { *w = impl.World{} },
		"no post's time":        func(w *impl.World) { w.Post.Time++ },
		"no post's sure":        func(w *impl.World) { w.Post.Sure = len(w.Post.Book) + 1 },
		"no post's queue":       func(w *impl.World) { w.Post.Queue = w.Post.Queue[1:] },
		"no post's book":        func(w *impl.World) { w.Post.Book = w.Post.Book[:len(w.Post.Book)-1] },
		"no reader's seed":      func(w *impl.World) { w.Reader.Seed = w.Reader.Seed[:31] },
		"no reader's epoch":     func(w *impl.World) { w.Reader.Epoch = -1 },
		"no reader's epoch, 41": func(w *impl.World) { w.Reader.Epoch = 41 },
		"no reader's notes":     func(w *impl.World) { w.Reader.Got = nil },
		"two alike are seen": func(w *impl.World) {
			w.Reader.Seen, w.Reader.Got = append(w.Reader.Seen, letter, letter), append(w.Reader.Got, nil, nil)
		},
	}
	for _, many := range noSeedSizes {
		faults[fmt.Sprint("a seed of ", many)] = func(w *impl.World) { w.Seed = someBytes(many) }
	}
	for _, many := range []int{31, 33} {
		faults[fmt.Sprint("a seed of ", many, " with room behind")] = func(w *impl.World) { w.Seed = someBytes(64)[:many] }
	}
	for _, known := range noKeyEpochs {
		faults[fmt.Sprint("known ", known)] = func(w *impl.World) { w.Known = known }
	}
	for _, count := range []int{-1, 0, 2, 3, 5, 12, 13, 4 + 256, 4 + 1<<32, -4, math.MinInt, math.MaxInt} {
		faults[fmt.Sprint("count ", count)] = func(w *impl.World) { w.Count = count }
	}
	return faults
}

func TestWorldsWithOneFault(t *testing.T) {
	for what, fault := range worldFaults(t) {
		w := busyWorld(t)
		if w.Count != 4 {
			t.Fatalf("a busy one is %s", shownWorld(w))
		}
		checkWorldOk(t, what+", ahead of it", w, true)
		fault(&w)
		checkNoWorld(t, what, w)
	}
	for _, known := range keyEpochs {
		w := busyWorld(t)
		w.Known = known
		checkWorldOk(t, "known", w, true)
	}
}

func TestWorldsWithTooMany(t *testing.T) {
	for sent := range 15 {
		for net := range 15 {
			w := worldOf(t, sent, net)
			checkWorldOk(t, fmt.Sprint(sent, " are sent, ", net, " on their way"), w, sent <= 12 && net <= 12)
		}
		for count := -1; count < 15; count++ {
			w := worldOf(t, sent, 1)
			w.Count = count
			checkWorldOk(t, fmt.Sprint(sent, " are sent, the count is ", count), w, sent == count && sent <= 12)
		}
	}
	checkNoWorld(t, "13 are sent", worldOf(t, 13, 0))
	checkNoWorld(t, "13 are on their way", worldOf(t, 0, 13))
	checkNoWorld(t, "many are on their way", worldOf(t, 0, 500))
}

// wrongWires are each wrong in one thing.
func wrongWires(t *testing.T) map[string]impl.Wire {
	t.Helper()
	wrong := map[string]impl.Wire{
		"to the post with a byte":        {ToPost: true, Item: itemOf(routeA, 1, "x"), Bytes: []byte{0}},
		"to the post with a letter":      {ToPost: true, Item: itemOf(routeA, 1, "x"), Bytes: letterFor(t, 1, alike(2), 0, "x")},
		"to the post with bytes alone":   {ToPost: true, Bytes: []byte("x")},
		"to the post with a zero item":   {ToPost: true},
		"to the reader with an item":     {Item: itemOf(routeA, 1, "x")},
		"to the reader with both":        {Item: itemOf(routeA, 1, "x"), Bytes: []byte("x")},
		"to the reader with a route":     {Item: impl.Item{Route: routeA}, Bytes: []byte("x")},
		"to the reader with no route":    {Item: impl.Item{Route: "x"}},
		"to the reader with a topic":     {Item: impl.Item{Topic: 1}, Bytes: []byte("x")},
		"to the reader with no topic":    {Item: impl.Item{Topic: -1}},
		"to the reader with a due":       {Item: impl.Item{Due: 1}, Bytes: []byte("x")},
		"to the reader with no due":      {Item: impl.Item{Due: -1}},
		"to the reader with item bytes":  {Item: impl.Item{Bytes: []byte{0}}, Bytes: []byte("x")},
		"to the reader with item letter": {Item: impl.Item{Bytes: letterFor(t, 1, alike(2), 0, "x")}},
	}
	for i, x := range badItems(routeA, 1) {
		wrong[fmt.Sprint("to the post with bad item ", i)] = impl.Wire{ToPost: true, Item: x}
	}
	for _, many := range noByteSizes {
		wrong[fmt.Sprint("to the reader with bytes ", many)] = impl.Wire{Bytes: make([]byte, many)}
	}
	return wrong
}

// A wire that is wrong in one thing is found at each place.
func TestWorldsWithAWrongWire(t *testing.T) {
	for what, x := range wrongWires(t) {
		for _, a := range []int{0, 3, 11} {
			w := worldOf(t, 1, 11)
			w.Net = slices.Insert(w.Net, a, x)
			checkWorldOk(t, what, w, false)
		}
		checkNoWorld(t, what, worldWith(busyWorld(t), x))
	}
	for _, many := range bytesEdges {
		for _, x := range []impl.Wire{{Bytes: someBytes(many)}, {ToPost: true, Item: impl.Item{Route: routeC, Topic: 9, Due: impl.MaxTime, Bytes: someBytes(many)}}, {Item: impl.Item{Bytes: []byte{}}, Bytes: someBytes(many)}} {
			w := worldWith(busyWorld(t), slices.Repeat([]impl.Wire{x}, 12)...)
			checkWorldOk(t, "a wire at its limits", w, true)
			checkDo(t, "a wire at its limits", w, deedOf(impl.DdGive, 11), impl.CdDone)
		}
	}
}

// wrongSent are each wrong in one thing.
func wrongSent() map[string]impl.Sent {
	right := sentOf(1)[0]
	wrong := map[string]impl.Sent{}
	with := func(what string, turn func(s *impl.Sent)) {
		s := right
		turn(&s)
		wrong[what] = s
	}
	for i, route := range noRoutes {
		with(fmt.Sprint("no route ", i), func(s *impl.Sent) { s.Route = route })
	}
	for _, many := range []int{201, 202, 255, 256, 1500, 65536} {
		with(fmt.Sprint("a note of ", many), func(s *impl.Sent) { s.Note = make([]byte, many) })
	}
	for _, many := range noByteSizes {
		with(fmt.Sprint("bytes ", many), func(s *impl.Sent) { s.Bytes = make([]byte, many) })
	}
	for _, epoch := range noKeyEpochs {
		with(fmt.Sprint("epoch ", epoch), func(s *impl.Sent) { s.Epoch = epoch })
	}
	with("nothing", func(s *impl.Sent) { *s = impl.Sent{} })
	return wrong
}

// A sent one that is wrong in one thing is found at each place.
func TestWorldsWithAWrongSent(t *testing.T) {
	for what, s := range wrongSent() {
		for _, a := range []int{0, 5, 11} {
			w := worldOf(t, 12, 1)
			w.Sent[a] = s
			checkWorldOk(t, what, w, false)
		}
		w := busyWorld(t)
		w.Sent[3] = s
		checkNoWorld(t, what, w)
	}
	for _, many := range bytesEdges {
		for _, note := range []int{0, 1, 199, 200} {
			for _, epoch := range keyEpochs {
				w := worldOf(t, 12, 1)
				w.Sent[11] = impl.Sent{Route: routeC, Epoch: epoch, Note: someBytes(note), Bytes: someBytes(many)}
				checkWorldOk(t, "a sent one at its limits", w, true)
			}
		}
	}
	// That two are alike, or that none is a letter, is no fault.
	right := sentOf(1)[0]
	checkWorldOk(t, "two alike", impl.World{Seed: alike(1), Count: 2, Sent: []impl.Sent{right, right}, Reader: impl.Reader{Seed: alike(2)}}, true)
}

// Where several reasons apply, that which the chapter names first counts.
func TestWhichReasonOfAWorldComesFirst(t *testing.T) {
	broken := worldOf(t, 12, 12)
	broken.Known = 41
	for _, d := range append(eachKind(), impl.Deed{Kind: 11}, deedOf(impl.DdGive, 12), deedOf(impl.DdFetch, 2), writeOf(10, -1, "")) {
		checkDo(t, "bad, and full", broken, d, impl.CdBad)
	}
	full := worldOf(t, 12, 12)
	for _, c := range []struct {
		what string
		d    impl.Deed
		code int
	}{
		{"no wire, and full", deedOf(impl.DdTwice, 12), impl.CdNone},
		{"no wire, and full", deedOf(impl.DdTwice, -1), impl.CdNone},
		{"a wire, and full", deedOf(impl.DdTwice, 11), impl.CdFull},
		{"full, and nothing waits", deedOf(impl.DdFetch, 0), impl.CdFull},
		{"full, and no route", deedOf(impl.DdFetch, 2), impl.CdFull},
		{"full, and no epoch", deedOf(impl.DdFetch, 1), impl.CdFull},
		{"full, and no topic", writeOf(10, 1, "x"), impl.CdFull},
		{"full, and all is right", writeOf(1, 1, "x"), impl.CdFull},
		{"a wire goes", deedOf(impl.DdGive, 11), impl.CdDone},
		{"a wire is lost", deedOf(impl.DdLose, 0), impl.CdDone},
		{"the time", deedOf(impl.DdTick, 1), impl.CdDone},
		{"the next epoch", deedOf(impl.DdNext, 0), impl.CdDone},
	} {
		checkDo(t, c.what, full, c.d, c.code)
	}
}

// With room for no more, what would bring a wire is refused until one is gone.
func TestANetThatIsFull(t *testing.T) {
	w := checkAllDone(t, "written", newWorld(t), writeOf(1, 5, "note"), writeOf(2, 5, "note"), deedOf(impl.DdGive, 0))
	for len(w.Net) < impl.MaxNet {
		w = checkDo(t, "twice", w, deedOf(impl.DdTwice, 0), impl.CdDone)
	}
	for range 3 {
		for _, d := range []impl.Deed{deedOf(impl.DdTwice, 0), deedOf(impl.DdTwice, 11), deedOf(impl.DdFetch, 0), writeOf(1, 5, "x")} {
			w = checkDo(t, "no room", w, d, impl.CdFull)
		}
	}
	for _, d := range []impl.Deed{deedOf(impl.DdTwice, 0), deedOf(impl.DdTwice, 10), deedOf(impl.DdFetch, 0), writeOf(1, 5, "x")} {
		checkAllDone(t, "room again", w, deedOf(impl.DdLose, 11), d)
		checkAllDone(t, "room again", w, deedOf(impl.DdGive, 0), d)
	}
}

// Promise 17: what is refused turns nothing, so a world that is pestered with it goes the way of one that is not.
func TestWhatIsRefusedTurnsNoWorld(t *testing.T) {
	plain, pestered := newWorld(t), newWorld(t)
	bad := []impl.Deed{
		{}, {Kind: 11}, writeOf(10, 1, "x"), writeOf(1, -1, "x"), writeOf(1, 1001, "x"), writeOf(1, 1, strings.Repeat("x", 201)),
		deedOf(impl.DdGive, -1), deedOf(impl.DdGive, 12), deedOf(impl.DdLose, -1), deedOf(impl.DdLose, 12), deedOf(impl.DdTwice, -1), deedOf(impl.DdTwice, 12),
		deedOf(impl.DdFetch, -1), deedOf(impl.DdFetch, 2), deedOf(impl.DdTick, -1), deedOf(impl.DdTick, impl.MaxTime+1),
	}
	for _, d := range append(runOf(), deedOf(impl.DdTick, 3)) {
		var code int
		for _, other := range bad {
			pestered, code = checkTurned(t, "refused", pestered, other)
			if code == impl.CdDone {
				t.Fatalf("%s is done", shownDeed(other))
			}
		}
		plain, pestered = checkDo(t, "alone", plain, d, impl.CdDone), checkDo(t, "among others", pestered, d, impl.CdDone)
		if !sameWorld(plain, pestered) {
			t.Fatalf("%s, want %s", shownWorld(pestered), shownWorld(plain))
		}
	}
	// In one run likewise.
	var all []impl.Deed
	for _, d := range runOf() {
		all = append(append(all, bad[len(all)%len(bad)], bad[(len(all)+5)%len(bad)]), d)
	}
	alone, _ := impl.DoAll(newWorld(t), runOf())
	if among, codes := checkAll(t, "in one run", newWorld(t), all); !sameWorld(among, alone) || len(codes) != 3*len(runOf()) {
		t.Fatalf("%s, want %s", shownWorld(among), shownWorld(alone))
	}
}

// runOf are deeds that on a new world are all done.
func runOf() []impl.Deed {
	give, fetch := deedOf(impl.DdGive, 0), deedOf(impl.DdFetch, 0)
	return []impl.Deed{
		writeOf(1, 50, "one"), writeOf(0, 50, "two"), give, deedOf(impl.DdTwice, 0), give, give, deedOf(impl.DdSure, 0), fetch, give, deedOf(impl.DdTick, 3),
		deedOf(impl.DdNext, 0), writeOf(3, 0, "three"), give, deedOf(impl.DdFetch, 1), deedOf(impl.DdTwice, 0), deedOf(impl.DdLose, 1), give,
		deedOf(impl.DdLearn, 0), writeOf(4, 1000, "four"), give, fetch, give, deedOf(impl.DdFall, 260), fetch, give,
	}
}

// A run is its deeds one behind the other, wherever it is parted.
func TestRunsOfDeeds(t *testing.T) {
	list := slices.Concat(runOf(), []impl.Deed{{}, {Kind: 99}, deedOf(impl.DdGive, 9), deedOf(impl.DdTick, -1), writeOf(10, 0, "")}, runOf())
	for _, w := range []impl.World{newWorld(t), busyWorld(t), worldOf(t, 11, 11), worldOf(t, 12, 12)} {
		whole, codes := checkAll(t, "a run", w, list)
		for half := range len(list) + 1 {
			first, firstCodes := impl.DoAll(w, list[:half])
			second, secondCodes := impl.DoAll(first, list[half:])
			if !sameWorld(second, whole) || !slices.Equal(slices.Concat(firstCodes, secondCodes), codes) {
				t.Fatalf("parted at %d: %s, %d, %d, want %s, %d", half, shownWorld(second), firstCodes, secondCodes, shownWorld(whole), codes)
			}
		}
	}
	_, codes := impl.DoAll(newWorld(t), runOf())
	if !slices.Equal(codes, make([]int, len(runOf()))) {
		t.Errorf("on a new world the codes are %d", codes)
	}
}

func TestRunsOfEachLength(t *testing.T) {
	w := newWorld(t)
	for _, many := range []int{0, 1, 2, 99, 100} {
		got, codes := checkAll(t, "so many", w, slices.Repeat([]impl.Deed{deedOf(impl.DdTick, 1)}, many))
		if got.Post.Time != many || len(codes) != many {
			t.Fatalf("of %d there are %d, and %s", many, len(codes), shownWorld(got))
		}
	}
	for _, many := range []int{101, 102, 200, 1000, 65636} {
		checkNoRun(t, "too many", w, slices.Repeat([]impl.Deed{deedOf(impl.DdTick, 1)}, many))
		checkNoRun(t, "too many", busyWorld(t), make([]impl.Deed, many))
		checkNoRun(t, "too many, and no world", impl.World{}, make([]impl.Deed, many))
	}
	for _, w := range []impl.World{newWorld(t), busyWorld(t)} {
		for _, list := range [][]impl.Deed{nil, {}} {
			if got, codes := impl.DoAll(w, list); len(codes) != 0 || !sameWorld(got, w) {
				t.Fatalf("no deeds of %s = %s, %d", shownWorld(w), shownWorld(got), codes)
			}
		}
	}
	// A deed that is none leaves the world as it was, and those behind it are done.
	got, codes := checkAll(t, "none among others", w, []impl.Deed{{}, deedOf(impl.DdTick, 1), {Kind: 11}, deedOf(impl.DdTick, 1)})
	if !slices.Equal(codes, []int{1, 0, 1, 0}) || got.Post.Time != 2 {
		t.Fatalf("none among others: %d, %s", codes, shownWorld(got))
	}
}

// anyAct is often one that is done.
func anyAct(from *rand.Rand, w impl.World) impl.Deed {
	wire := from.Intn(len(w.Net)+1) - from.Intn(30)/29
	switch kind := from.Intn(34); kind {
	case 0, 1, 2, 3, 4, 5:
		note := strings.Repeat(string(rune('a'+from.Intn(26))), from.Intn(203))
		return writeOf(from.Intn(11), from.Intn(20)*from.Intn(54), note)
	case 6, 7, 8, 9, 10, 11, 12, 13, 14, 15:
		return deedOf(impl.DdGive, wire)
	case 16, 17:
		return deedOf(impl.DdTwice, wire)
	case 18, 19, 20, 21, 22, 23, 24:
		return deedOf(impl.DdFetch, from.Intn(13)/6)
	case 25:
		return deedOf(impl.DdTick, from.Intn(9)-1)
	case 26:
		return deedOf(impl.DdFall, from.Intn(400)-20)
	case 27, 28:
		return deedOf(from.Intn(14)-1, wire)
	case 29:
		return deedOf(impl.DdNext, 0)
	default:
		return deedOf([]int{impl.DdLose, impl.DdSure, impl.DdLearn, impl.DdLearn}[kind-30], wire)
	}
}

// checkArrived holds promise 17 of all that was read: it was written, as it was, and each letter is read once.
func checkArrived(t *testing.T, w impl.World) {
	t.Helper()
	seen := map[string]bool{}
	for i, b := range w.Reader.Seen {
		at := slices.IndexFunc(w.Sent, func(s impl.Sent) bool { return bytes.Equal(s.Bytes, b) })
		if at < 0 || !bytes.Equal(w.Sent[at].Note, w.Reader.Got[i]) || seen[string(b)] {
			t.Fatalf("at place %d it got %q: %s", i, w.Reader.Got[i], shownWorld(w))
		}
		seen[string(b)] = true
	}
}

func TestWorldsAgainstLists(t *testing.T) {
	from := rand.New(rand.NewSource(17))
	done, codes := map[int]int{}, map[int]int{}
	read := 0
	for range 55 {
		w, ok := impl.WorldNew(oftenEdgy(from), oftenEdgy(from))
		if !ok {
			t.Fatal("there is no new world")
		}
		start := w
		var list []impl.Deed
		for range 90 {
			d := anyAct(from, w)
			list = append(list, d)
			var code int
			w, code = checkTurned(t, "any", w, d)
			codes[code]++
			if code == impl.CdDone {
				done[d.Kind]++
			}
			checkArrived(t, w)
		}
		if got, _ := impl.DoAll(start, list); !sameWorld(got, w) {
			t.Fatalf("in one run there is %s, want %s", shownWorld(got), shownWorld(w))
		}
		read += len(w.Reader.Got)
	}
	for kind := impl.DdWrite; kind <= impl.DdLearn; kind++ {
		if done[kind] < 30 {
			t.Errorf("kind %d was done %d times only", kind, done[kind])
		}
	}
	for code := impl.CdDone; code <= impl.CdFull; code++ {
		if codes[code] < 30 {
			t.Errorf("code %d came %d times only", code, codes[code])
		}
	}
	if read < 100 {
		t.Errorf("%d notes were read only", read)
	}
}

func roomyBytes(b []byte) []byte { return append(make([]byte, 0, len(b)+30), b...) }

// roomyWorld is a busy one with room behind each of its lists.
func roomyWorld(t *testing.T) impl.World {
	t.Helper()
	w := busyWorld(t)
	w.Net = append(append(make([]impl.Wire, 0, 20), w.Net...), impl.Wire{Bytes: []byte("none")})
	w.Sent = append(make([]impl.Sent, 0, 20), w.Sent...)
	w.Post.Queue = append(make([]impl.Item, 0, 20), w.Post.Queue...)
	w.Reader.Seen, w.Reader.Got = append(make([][]byte, 0, 30), w.Reader.Seen...), append(make([][]byte, 0, 30), w.Reader.Got...)
	for _, list := range listsOf(&w) {
		*list = roomyBytes(*list)
	}
	return w
}

// listsOf are all lists of bytes that a world has.
func listsOf(w *impl.World) []*[]byte {
	lists := []*[]byte{&w.Seed, &w.Post.Book, &w.Reader.Seed}
	for i := range w.Post.Queue {
		lists = append(lists, &w.Post.Queue[i].Bytes)
	}
	for i := range w.Reader.Seen {
		lists = append(lists, &w.Reader.Seen[i])
	}
	for i := range w.Reader.Got {
		lists = append(lists, &w.Reader.Got[i])
	}
	for i := range w.Net {
		lists = append(lists, &w.Net[i].Item.Bytes, &w.Net[i].Bytes)
	}
	for i := range w.Sent {
		lists = append(lists, &w.Sent[i].Note, &w.Sent[i].Bytes)
	}
	return lists
}

// writeOverWorld turns each of the lists, the room behind it, and then which there are.
func writeOverWorld(w impl.World) {
	for _, list := range listsOf(&w) {
		writeOverLists([][]byte{*list})
	}
	writeOverPost(impl.Post{Queue: w.Post.Queue})
	writeOverLists(w.Reader.Seen)
	writeOverLists(w.Reader.Got)
	for i := range w.Net[:cap(w.Net)] {
		w.Net[:cap(w.Net)][i] = impl.Wire{Bytes: []byte("another")}
	}
	for i := range w.Sent[:cap(w.Sent)] {
		w.Sent[:cap(w.Sent)][i] = impl.Sent{Route: "another", Note: []byte("another")}
	}
}

// worldAsks are what answers with a world, and with codes where it does.
func worldAsks(w impl.World, note []byte) map[string]func() (impl.World, []int) {
	wrong := w
	wrong.Known = -1
	asks := map[string]func() (impl.World, []int){
		"WorldNew":         func() (impl.World, []int) { after, _ := impl.WorldNew(w.Seed, w.Reader.Seed); return after, nil },
		"WorldNew, alike":  func() (impl.World, []int) { after, _ := impl.WorldNew(w.Seed, w.Seed); return after, nil },
		"WorldNew of none": func() (impl.World, []int) { after, _ := impl.WorldNew(w.Seed, note); return after, nil },
	}
	deeds := append(eachKind(), impl.Deed{}, deedOf(impl.DdGive, 1), deedOf(impl.DdGive, 7), deedOf(impl.DdTwice, 1), deedOf(impl.DdFetch, 1), deedOf(impl.DdFetch, 2), deedOf(impl.DdTick, -1), writeOf(10, 1, ""))
	deeds[0].Note = note
	for i, d := range deeds {
		for name, from := range map[string]impl.World{"Do ": w, "Do of none ": wrong} {
			asks[fmt.Sprint(name, i)] = func() (impl.World, []int) { after, code := impl.Do(from, d); return after, []int{code} }
		}
	}
	for name, list := range map[string][]impl.Deed{"all": deeds, "some": deeds[:4], "one": deeds[:1], "none": nil, "bad ones": make([]impl.Deed, 3), "too many": make([]impl.Deed, 101)} {
		asks["DoAll of "+name] = func() (impl.World, []int) { return impl.DoAll(w, list) }
		asks["DoAll by none of "+name] = func() (impl.World, []int) { return impl.DoAll(wrong, list) }
	}
	return asks
}

func TestWorldsAnswerAnewEachTime(t *testing.T) {
	w, was, note := roomyWorld(t), roomyWorld(t), roomyBytes([]byte("note"))
	for name, ask := range worldAsks(w, note) {
		kept, keptCodes := ask()
		kept, keptCodes = clonedWorld(kept), slices.Clone(keptCodes)
		got, codes := ask()
		writeOverWorld(got)
		for i := range codes[:cap(codes)] {
			codes[:cap(codes)][i] = -7
		}
		if !sameWorld(w, was) || string(note) != "note" {
			t.Fatalf("%s shares memory with an argument: %s, %q", name, shownWorld(w), note)
		}
		if again, codesAgain := ask(); !sameWorld(again, kept) || !slices.Equal(codesAgain, keptCodes) {
			t.Errorf("%s, asked again, = %s, %d, want %s, %d", name, shownWorld(again), codesAgain, shownWorld(kept), keptCodes)
		}
	}
	fresh := bytes.Clone(impl.Fresh(w))
	writeOverLists([][]byte{impl.Fresh(w)})
	if !sameWorld(w, was) || !bytes.Equal(impl.Fresh(w), fresh) {
		t.Errorf("Fresh, asked again, = %x, want %x", impl.Fresh(w), fresh)
	}
}

// What is given may be written over behind a call: what was answered stays as it was.
func TestAWorldThatChangesBehindACall(t *testing.T) {
	for name := range worldAsks(roomyWorld(t), nil) {
		w, note := roomyWorld(t), roomyBytes([]byte("note"))
		got, _ := worldAsks(w, note)[name]()
		kept := clonedWorld(got)
		writeOverWorld(w)
		writeOverLists([][]byte{note})
		if !sameWorld(got, kept) {
			t.Errorf("%s turned into %s, want %s", name, shownWorld(got), shownWorld(kept))
		}
	}
}

// Also where what was given shares its bytes, what is answered shares none: each list within a world is its own.
func TestTheListsOfAWorldShareNothing(t *testing.T) {
	w, note := roomyWorld(t), roomyBytes([]byte("note"))
	sharing := roomyWorld(t)
	sharing.Reader.Seed, sharing.Reader.Got = sharing.Seed, [][]byte{sharing.Sent[0].Note}
	sharing.Sent[1].Bytes, sharing.Net[0].Bytes = sharing.Sent[0].Bytes, sharing.Sent[0].Bytes
	sharing.Sent[2].Note, sharing.Net[1].Item.Bytes = sharing.Sent[0].Bytes[:20], sharing.Sent[0].Bytes
	sharing.Reader.Seen = [][]byte{sharing.Sent[0].Bytes}
	checkWorldOk(t, "lists that share their bytes", sharing, true)
	for _, from := range []impl.World{w, sharing} {
		for name, ask := range worldAsks(from, note) {
			got, _ := ask()
			lists := listsOf(&got)
			for i := range lists {
				for j := range lists[:i] {
					checkApart(t, name, *lists[i], *lists[j])
				}
			}
			got, _ = ask()
			seen := clonedLists(got.Reader.Seen)
			writeOverLists(got.Reader.Got)
			if !sameLists(got.Reader.Seen, seen) {
				t.Errorf("%s: Seen shares memory with Got", name)
			}
		}
	}
	checkWorldOk(t, "behind all that", w, true)
	checkWorldOk(t, "behind all that", sharing, true)
}

func TestWorldsLeaveTheirArgumentsAlone(t *testing.T) {
	w, note := roomyWorld(t), roomyBytes([]byte("note"))
	// Behind each list there is room, in which others stand.
	net, sent, queue := append(w.Net, netOf(7)...), append(w.Sent, sentOf(9)...), append(w.Post.Queue, fullQueue()...)
	seen, got := append(w.Reader.Seen, someSeen(5)...), append(w.Reader.Got, someSeen(7)...)
	book, long := append(w.Post.Book, someBytes(30)...), append(note, someBytes(20)...)
	wide := w
	wide.Net, wide.Sent, wide.Post.Queue, wide.Reader.Seen, wide.Reader.Got, wide.Post.Book = net, sent, queue, seen, got, book
	kept, longKept := clonedWorld(wide), bytes.Clone(long)
	for _, ask := range worldAsks(w, note) {
		ask()
	}
	impl.WorldOk(w)
	impl.Fresh(w)
	if !sameWorld(wide, kept) || !bytes.Equal(long, longKept) {
		t.Errorf("what was given turned into %s, %x", shownWorld(wide), long)
	}
	deeds := append(make([]impl.Deed, 0, 60), runOf()...)
	room := append(deeds, eachKind()...)
	impl.DoAll(w, deeds)
	for i, d := range append(runOf(), eachKind()...) {
		if room[i].Kind != d.Kind || room[i].A != d.A || room[i].B != d.B || !bytes.Equal(room[i].Note, d.Note) {
			t.Errorf("deed %d turned into %s", i, shownDeed(room[i]))
		}
	}
}

// A world from which two ways are gone: neither is to be seen in the other.
func TestTwoWaysFromOneWorld(t *testing.T) {
	w, was := roomyWorld(t), roomyWorld(t)
	one := checkDo(t, "one way", w, writeOf(1, 1, "one way"), impl.CdDone)
	two := checkDo(t, "another way", w, writeOf(2, 2, "another way"), impl.CdDone)
	if string(one.Sent[4].Note) != "one way" || string(two.Sent[4].Note) != "another way" || one.Net[len(one.Net)-1].Item.Topic != 1 || two.Net[len(two.Net)-1].Item.Topic != 2 {
		t.Errorf("%s and %s", shownWorld(one), shownWorld(two))
	}
	checkAll(t, "on from the one", one, runOf())
	checkAll(t, "on from the other", two, runOf())
	if !sameWorld(w, was) {
		t.Errorf("where they came from is %s, want %s", shownWorld(w), shownWorld(was))
	}
}

func TestWorldsOfManyAtATime(t *testing.T) {
	w, note := roomyWorld(t), roomyBytes([]byte("note"))
	type answer struct {
		world impl.World
		codes []int
	}
	want := map[string]answer{}
	for name, ask := range worldAsks(w, note) {
		world, codes := ask()
		want[name] = answer{world, codes}
	}
	var all sync.WaitGroup
	for range 8 {
		all.Go(func() {
			for range 3 {
				for name, ask := range worldAsks(w, note) {
					if got, codes := ask(); !sameWorld(got, want[name].world) || !slices.Equal(codes, want[name].codes) {
						t.Errorf("%s = %s, %d", name, shownWorld(got), codes)
					}
				}
				if !impl.WorldOk(w) || len(impl.Fresh(w)) != 32 {
					t.Error("what is asked of one world is answered in another way")
				}
			}
		})
	}
	all.Wait()
}

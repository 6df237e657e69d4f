package tests

import (
	"bytes"
	"fmt"
	"math/rand"
	"slices"
	"strings"
	"sync"
	"testing"

	"loop.example/g00473/impl"
)

// verdict is what the judge says of a world: of what is read, of how often, and of what waits.
type verdict struct{ read, once, blind bool }

var (
	allHold   = verdict{read: true, once: true, blind: true}
	noneHolds = verdict{}
	notRead   = verdict{once: true, blind: true}
	notBlind  = verdict{read: true, once: true}
)

// judgedBy is the judge once more, by a map of what was sent first as those bytes.
func judgedBy(w impl.World) verdict {
	if !worldFits(w) {
		return noneHolds
	}
	first := map[string]impl.Sent{}
	for _, s := range slices.Backward(w.Sent) {
		first[string(s.Bytes)] = s
	}
	said := verdict{read: true, once: len(w.Sent) >= len(w.Reader.Got), blind: true}
	for i, b := range w.Reader.Seen {
		s, sent := first[string(b)]
		said.read = said.read && sent && bytes.Equal(s.Note, w.Reader.Got[i])
	}
	items := slices.Clone(w.Post.Queue)
	for _, x := range w.Net {
		if x.ToPost {
			items = append(items, x.Item)
		} else if _, sent := first[string(x.Bytes)]; !sent {
			said.blind = false
		}
	}
	for _, x := range items {
		s, sent := first[string(x.Bytes)]
		said.blind = said.blind && sent && s.Route == x.Route && len(x.Bytes) == 51+paddedSize(len(s.Note))
	}
	return said
}

func checkJudged(t *testing.T, what string, w impl.World, want verdict) {
	t.Helper()
	got := verdict{impl.JudgeRead(w), impl.JudgeOnce(w), impl.JudgeBlind(w)}
	if again := judgedBy(w); got != want || again != want {
		t.Fatalf("%s: of %s the judge says %+v, and once more %+v, want %+v", what, shownWorld(w), got, again, want)
	}
	if all := impl.JudgeAll(w); all != (want == allHold) {
		t.Fatalf("%s: of %s JudgeAll says %t beside %+v", what, shownWorld(w), all, want)
	}
}

// sentFor is a note of so many bytes as it might have been sent; each place has a note and bytes of its own.
func sentFor(route string, place, many int) impl.Sent {
	return impl.Sent{
		Route: route, Epoch: place % 41,
		Note:  bytes.Repeat([]byte{byte(place)}, many),
		Bytes: bytes.Repeat([]byte{byte(place + 100)}, 51+paddedSize(many)),
	}
}

// someSent are 12 notes at the edges of the steps, of four routes.
func someSent() []impl.Sent {
	var sent []impl.Sent
	for i, many := range []int{0, 30, 31, 94, 95, 190, 191, 200, 1, 62, 63, 5} {
		sent = append(sent, sentFor(fmt.Sprintf("%016x", i/3), i, many))
	}
	return sent
}

func itemFor(s impl.Sent) impl.Item { return impl.Item{Route: s.Route, Due: 50, Bytes: s.Bytes} }

func itemsFor(sent ...impl.Sent) []impl.Item {
	var items []impl.Item
	for _, s := range sent {
		items = append(items, itemFor(s))
	}
	return items
}

// sentWorld has sent these, and nothing else.
func sentWorld(t *testing.T, sent ...impl.Sent) impl.World {
	t.Helper()
	w := newWorld(t)
	w.Count, w.Sent = len(sent), sent
	return w
}

// waitingWorld has these items waiting, too.
func waitingWorld(t *testing.T, w impl.World, items ...impl.Item) impl.World {
	t.Helper()
	var lines []impl.Line
	for _, x := range items {
		lines = append(lines, putLine(x))
	}
	return worldWithPost(w, postOf(t, lines...))
}

func toPost(items ...impl.Item) []impl.Wire {
	var net []impl.Wire
	for _, x := range items {
		net = append(net, impl.Wire{ToPost: true, Item: x})
	}
	return net
}

// heardWorld has read these, too.
func heardWorld(w impl.World, sent ...impl.Sent) impl.World {
	w.Reader.Seen, w.Reader.Got = nil, nil
	for _, s := range sent {
		w.Reader.Seen, w.Reader.Got = append(w.Reader.Seen, s.Bytes), append(w.Reader.Got, s.Note)
	}
	return w
}

// readWorld has read all that was sent, in another order than it was sent.
func readWorld(t *testing.T) impl.World {
	t.Helper()
	sent := someSent()
	var heard []impl.Sent
	for i := range sent {
		heard = append(heard, sent[i*5%12])
	}
	return heardWorld(sentWorld(t, sent...), heard...)
}

// fullWorld has as many as there can be of what is sent, read, waits, and is on its way.
func fullWorld(t *testing.T) impl.World {
	t.Helper()
	w := readWorld(t)
	w = waitingWorld(t, w, itemsFor(w.Sent[2:]...)...)
	w.Net = toPost(itemsFor(w.Sent[:6]...)...)
	for _, s := range w.Sent[6:] {
		w.Net = append(w.Net, impl.Wire{Bytes: s.Bytes})
	}
	return w
}

// withItem are the worlds in which the item waits, and those in which it is on its way to the post, at each place among others.
func withItem(t *testing.T, w impl.World, x impl.Item, others ...impl.Item) map[string]impl.World {
	t.Helper()
	worlds := map[string]impl.World{}
	for place := range len(others) + 1 {
		items := slices.Insert(slices.Clone(others), place, x)
		worlds[fmt.Sprint("it waits at place ", place)] = waitingWorld(t, w, items...)
		worlds[fmt.Sprint("it is on its way to the post at place ", place)] = worldWith(w, toPost(items...)...)
	}
	return worlds
}

func checkWithItem(t *testing.T, what string, w impl.World, x impl.Item, want bool, others ...impl.Item) {
	t.Helper()
	for where, each := range withItem(t, w, x, others...) {
		checkJudged(t, what+", "+where, each, verdict{read: true, once: true, blind: want})
	}
}

func TestOfANewWorldAllHolds(t *testing.T) {
	checkJudged(t, "a new one", newWorld(t), allHold)
	for _, seed := range append(edgeKeys(), alike(7)) {
		w, _ := impl.WorldNew(seed, alike(2))
		checkJudged(t, "a new one", w, allHold)
		w, _ = impl.WorldNew(alike(1), seed)
		checkJudged(t, "a new one", w, allHold)
		w, _ = impl.WorldNew(seed, seed)
		checkJudged(t, "one of two seeds alike", w, allHold)
	}
	checkJudged(t, "none", impl.World{}, noneHolds)
	none, _ := impl.WorldNew(alike(1), nil)
	checkJudged(t, "none", none, noneHolds)
	bad, _ := impl.Do(newWorld(t), impl.Deed{})
	checkJudged(t, "what is beside CdBad", bad, noneHolds)
	checkJudged(t, "a busy one", busyWorld(t), allHold)
	checkJudged(t, "one with all that there can be", fullWorld(t), allHold)
}

// checkStays holds that what was read once stays read, in its place.
func checkStays(t *testing.T, what string, from, to impl.World) {
	t.Helper()
	many := len(from.Reader.Seen)
	if len(to.Reader.Seen) < many || !sameLists(to.Reader.Seen[:many], from.Reader.Seen) || !sameLists(to.Reader.Got[:many], from.Reader.Got) {
		t.Fatalf("%s: of %s there is %s", what, shownWorld(from), shownWorld(to))
	}
}

// seenOf counts what is to come often enough among drawn deeds.
func seenOf(count map[string]int, from, to impl.World, d impl.Deed, code int) {
	if code != impl.CdDone {
		count["refused"]++
		return
	}
	count[fmt.Sprint("kind ", d.Kind)]++
	switch {
	case d.Kind == impl.DdGive && !from.Net[d.A].ToPost && len(to.Reader.Seen) > len(from.Reader.Seen):
		count["read"]++
	case d.Kind == impl.DdGive && !from.Net[d.A].ToPost && impl.Read(from.Reader, from.Net[d.A].Bytes):
		count["heard twice"]++
	case d.Kind == impl.DdGive && !from.Net[d.A].ToPost:
		count["heard too late"]++
	case d.Kind == impl.DdGive && samePost(from.Post, to.Post):
		count["not taken in by the post"]++
	case d.Kind == impl.DdFall && len(to.Post.Queue) > len(from.Post.Queue):
		count["it waits again"]++
	case d.Kind == impl.DdFall && len(to.Post.Book) < len(from.Post.Book):
		count["lines are left away"]++
	case d.Kind == impl.DdLearn && from.Known != to.Known:
		count["another key"]++
	case d.Kind == impl.DdTick && len(to.Post.Queue) < len(from.Post.Queue):
		count["not due any more"]++
	}
}

// drawnDeed is often done, and often leads a letter on.
func drawnDeed(from *rand.Rand, w impl.World) impl.Deed {
	wire := from.Intn(len(w.Net) + 1)
	switch from.Intn(25) {
	case 0, 1, 2, 3, 4, 5, 6, 7:
		return deedOf(impl.DdGive, wire)
	case 8, 9, 10, 11, 12, 13:
		return deedOf(impl.DdFetch, from.Intn(5)/3)
	case 14, 15:
		return writeOf(from.Intn(3), from.Intn(80), strings.Repeat(string(rune('a'+from.Intn(26))), from.Intn(201)))
	case 16:
		return deedOf([]int{impl.DdNext, impl.DdLearn}[from.Intn(2)], 0)
	case 17:
		return deedOf([]int{impl.DdSure, impl.DdLose, 11}[from.Intn(3)], wire)
	case 18:
		return deedOf(impl.DdFall, from.Intn(200))
	case 19:
		// Often the last line alone is torn.
		return deedOf(impl.DdFall, len(w.Post.Book)-w.Post.Sure-from.Intn(25))
	case 20, 21:
		return deedOf(impl.DdTwice, wire)
	case 22:
		return deedOf(impl.DdTick, from.Intn(35))
	default:
		return anyAct(from, w)
	}
}

// Promise 18: behind each deed, whatever it is, all that the judge asks for holds.
func TestWhateverIsDoneAllHolds(t *testing.T) {
	from := rand.New(rand.NewSource(18))
	count := map[string]int{}
	for range 80 {
		w, ok := impl.WorldNew(oftenEdgy(from), oftenEdgy(from))
		if !ok {
			t.Fatal("there is no new world")
		}
		start := w
		var list []impl.Deed
		for range 100 {
			d := drawnDeed(from, w)
			after, code := impl.Do(w, d)
			if list = append(list, d); code == impl.CdBad {
				count["bad"]++
				continue
			}
			seenOf(count, w, after, d, code)
			checkStays(t, shownDeed(d), w, after)
			checkJudged(t, "behind "+shownDeed(d), after, allHold)
			w = after
		}
		checkRuns(t, from, start, list, w)
	}
	for _, what := range []string{"refused", "bad", "read", "heard twice", "heard too late", "not taken in by the post", "lines are left away", "it waits again", "another key", "not due any more"} {
		if count[what] < 25 {
			t.Errorf("%s: %d times only", what, count[what])
		}
	}
	for kind := impl.DdWrite; kind <= impl.DdLearn; kind++ {
		if what := fmt.Sprint("kind ", kind); count[what] < 50 {
			t.Errorf("%s: %d times only", what, count[what])
		}
	}
}

// checkRuns goes the same way by runs of any length.
func checkRuns(t *testing.T, from *rand.Rand, w impl.World, list []impl.Deed, end impl.World) {
	t.Helper()
	whole, _ := impl.DoAll(w, list)
	checkJudged(t, "behind one run", whole, allHold)
	for len(list) > 0 {
		many := 1 + from.Intn(len(list))
		after, _ := impl.DoAll(w, list[:many])
		checkStays(t, fmt.Sprint("a run of ", many), w, after)
		checkJudged(t, fmt.Sprint("behind a run of ", many), after, allHold)
		w, list = after, list[many:]
	}
	if !sameWorld(w, end) || !sameWorld(whole, end) {
		t.Fatalf("by runs there is %s, want %s", shownWorld(w), shownWorld(end))
	}
}

// The ways that a letter may go wrong, one behind the other, deed by deed.
func TestWiresThatAreLostOrTwiceOrLateAreJudged(t *testing.T) {
	give, fetch, twice, lose, next, learn := deedOf(impl.DdGive, 0), deedOf(impl.DdFetch, 0), deedOf(impl.DdTwice, 0), deedOf(impl.DdLose, 0), deedOf(impl.DdNext, 0), deedOf(impl.DdLearn, 0)
	old, fall, sure := deedOf(impl.DdFetch, 1), deedOf(impl.DdFall, 0), deedOf(impl.DdSure, 0)
	for what, c := range map[string]struct {
		list []impl.Deed
		got  string
	}{
		"read":                      {[]impl.Deed{writeOf(1, 9, "a"), give, fetch, give}, "[a]"},
		"lost":                      {[]impl.Deed{writeOf(1, 9, "a"), lose, fetch, writeOf(1, 9, "b"), give, fetch, lose, fetch}, "[]"},
		"twice to the post":         {[]impl.Deed{writeOf(0, 9, "a"), twice, give, give, fetch, give, fetch, give}, "[a]"},
		"twice to the reader":       {[]impl.Deed{writeOf(1, 9, "a"), give, fetch, twice, give, give}, "[a]"},
		"too late for the post":     {[]impl.Deed{writeOf(1, 9, "a"), deedOf(impl.DdTick, 10), give, fetch, give}, "[]"},
		"kept no more":              {[]impl.Deed{writeOf(1, 9, "a"), give, deedOf(impl.DdTick, 10), fetch, give}, "[]"},
		"just in time":              {[]impl.Deed{writeOf(1, 9, "a"), give, deedOf(impl.DdTick, 9), fetch, give}, "[a]"},
		"a key ago":                 {[]impl.Deed{writeOf(1, 9, "a"), give, next, old, give}, "[a]"},
		"two keys ago":              {[]impl.Deed{writeOf(1, 9, "a"), give, next, old, next, give}, "[]"},
		"by both keys":              {[]impl.Deed{writeOf(1, 9, "a"), next, learn, writeOf(1, 9, "b"), give, give, fetch, give, old, give}, "[b a]"},
		"it falls and waits again":  {[]impl.Deed{writeOf(1, 9, "a"), give, sure, fetch, give, fall, fetch, give}, "[a]"},
		"it falls and is forgotten": {[]impl.Deed{writeOf(1, 9, "a"), give, fall, fetch, give, writeOf(1, 9, "b"), give, fetch, give}, "[b]"},
		"the last of a topic":       {[]impl.Deed{writeOf(1, 9, "a"), writeOf(1, 9, "b"), give, give, fetch, give}, "[b]"},
		"the note again":            {[]impl.Deed{writeOf(1, 9, "a"), writeOf(2, 9, "a"), give, give, fetch, give, fetch, give}, "[a a]"},
		"nothing in it":             {[]impl.Deed{writeOf(1, 9, ""), give, fetch, give}, "[]"},
	} {
		w := newWorld(t)
		for i, d := range c.list {
			after, _ := checkTurned(t, what, w, d)
			checkStays(t, what, w, after)
			checkJudged(t, fmt.Sprint(what, ", deed ", i), after, allHold)
			w = after
		}
		if got := fmt.Sprintf("%s", w.Reader.Got); got != c.got {
			t.Errorf("%s: it got %s, want %s", what, got, c.got)
		}
	}
}

// Promise 18: of notes of one step what waits is as long, of the same route, topic and due; of notes of another step it is not.
func TestWhatWaitsTellsTheStepAlone(t *testing.T) {
	waits := func(note []byte) impl.Item {
		w := checkAllDone(t, "a note", newWorld(t), impl.Deed{Kind: impl.DdWrite, A: 3, B: 20, Note: note})
		checkJudged(t, "on its way to the post", w, allHold)
		w = checkAllDone(t, "a note", w, deedOf(impl.DdGive, 0))
		checkJudged(t, "it waits", w, allHold)
		return w.Post.Queue[0]
	}
	for _, one := range padSizes {
		x := waits(someBytes(one.many))
		if len(x.Bytes) != one.want+51 {
			t.Fatalf("of a note of %d there is %s", one.many, shown(x))
		}
		for _, other := range padSizes {
			y := waits(bytes.Repeat([]byte("x"), other.many))
			if len(x.Bytes) == len(y.Bytes) != (one.want == other.want) {
				t.Fatalf("of notes of %d and %d there are %s", one.many, other.many, shown(x, y))
			}
			if y.Bytes = x.Bytes; !sameItem(x, y) {
				t.Fatalf("of notes of %d and %d there are %s", one.many, other.many, shown(x, y))
			}
		}
	}
}

func TestWhatIsReadWasSent(t *testing.T) {
	checkJudged(t, "all of it", readWorld(t), allHold)
	for i := range 12 {
		b := readWorld(t).Reader.Seen[i]
		other := sentFor(routeA, 13, 31)
		for what, none := range map[string][]byte{
			"another first byte": bent(b, 0, 1), "another byte": bent(b, 40, 128), "another last byte": bent(b, len(b)-1, 1),
			"a byte less": b[:len(b)-1], "a byte less ahead": b[1:], "a byte more": append(bytes.Clone(b), 0), "nothing": nil, "one that was not sent": other.Bytes, "a note": []byte("note"),
			"as many as there can be": someBytes(mostBytes),
		} {
			w := readWorld(t)
			w.Reader.Seen[i] = none
			checkJudged(t, fmt.Sprint(what, " at place ", i), w, notRead)
			// Also where it is all that was seen.
			w.Reader.Seen, w.Reader.Got = w.Reader.Seen[i:i+1], w.Reader.Got[i:i+1]
			checkJudged(t, what, w, notRead)
		}
		// Of what was not sent there is no note, whatever it got.
		w := readWorld(t)
		w.Reader.Seen[i], w.Reader.Got[i] = other.Bytes, other.Note
		checkJudged(t, "one that was not sent, with its note", w, notRead)
		w.Reader.Got[i] = nil
		checkJudged(t, "one that was not sent, with nothing", w, notRead)
	}
}

func TestWhatIsReadIsAsItWasWritten(t *testing.T) {
	for i := range 12 {
		note := readWorld(t).Reader.Got[i]
		others := map[string][]byte{
			"longer": append(bytes.Clone(note), 0), "longer ahead": slices.Concat([]byte{1}, note), "twice": slices.Concat(note, []byte("x"), note),
			"that of another one": readWorld(t).Reader.Got[(i+1)%12], "padded": paddedOf(note),
		}
		if len(note) > 0 {
			others["shorter"], others["shorter ahead"] = note[:len(note)-1], note[:0:0]
			others["nothing"], others["empty"] = nil, []byte{}
			for _, place := range []int{0, len(note) / 2, len(note) - 1} {
				others[fmt.Sprint("another at ", place)] = bent(note, place, 32)
			}
		}
		for what, other := range others {
			w := readWorld(t)
			w.Reader.Got[i] = other
			want := notRead
			if len(other) > 200 {
				want = noneHolds
			}
			checkJudged(t, fmt.Sprint(what, " at place ", i), w, want)
		}
		w := readWorld(t)
		w.Reader.Got[i] = append(make([]byte, 0, 300), note...)
		checkJudged(t, "the same in other memory", w, allHold)
	}
	// Each byte of a note counts.
	for place := range 200 {
		s := sentFor(routeA, 1, 200)
		w := heardWorld(sentWorld(t, s), s)
		checkJudged(t, "a note of 200", w, allHold)
		w.Reader.Got[0] = bent(s.Note, place, 1)
		checkJudged(t, fmt.Sprint("another at ", place), w, notRead)
	}
}

// Nothing is as much as an empty list, as a note and as bytes.
func TestNothingIsJudgedAsNothing(t *testing.T) {
	none := [][]byte{nil, {}, make([]byte, 0, 9)}
	for _, sent := range none {
		for _, seen := range none {
			s := impl.Sent{Route: routeA, Note: sent, Bytes: []byte("bytes")}
			checkJudged(t, "an empty note", heardWorld(sentWorld(t, s), impl.Sent{Note: seen, Bytes: []byte("bytes")}), allHold)
			s = impl.Sent{Route: routeA, Note: []byte("note"), Bytes: sent}
			w := heardWorld(sentWorld(t, s), impl.Sent{Note: []byte("note"), Bytes: seen})
			checkJudged(t, "empty bytes", w, allHold)
			checkJudged(t, "empty bytes to the reader", worldWith(w, impl.Wire{Bytes: seen}), allHold)
			checkJudged(t, "empty bytes to the post", worldWith(w, toPost(impl.Item{Route: routeA, Bytes: seen})...), notBlind)
		}
	}
	w := sentWorld(t, sentFor(routeA, 1, 5))
	checkJudged(t, "empty bytes to the reader, not sent", worldWith(w, impl.Wire{}), notBlind)
	checkJudged(t, "empty bytes to the post, not sent", worldWith(w, toPost(impl.Item{Route: routeA})...), notBlind)
	checkJudged(t, "empty bytes to the reader, nothing sent", worldWith(newWorld(t), impl.Wire{}), notBlind)
	checkJudged(t, "empty bytes are seen, not sent", heardWorld(w, impl.Sent{}), notRead)
	checkJudged(t, "empty bytes are seen, nothing sent", heardWorld(newWorld(t), impl.Sent{}), verdict{blind: true})
}

// Of two that were sent as the same bytes the first one counts, wherever they stand.
func TestOfTwoSentAsTheSameBytesTheFirstCounts(t *testing.T) {
	for i := range 12 {
		for j := range i {
			w := readWorld(t)
			w.Sent[i].Bytes = w.Sent[j].Bytes
			w = heardWorld(w, w.Sent[j])
			checkJudged(t, fmt.Sprint("the note of the first one, ", j, " and ", i), w, allHold)
			w = heardWorld(w, w.Sent[i])
			checkJudged(t, fmt.Sprint("the note of the second one, ", j, " and ", i), w, notRead)
			w.Sent[i], w.Sent[j] = w.Sent[j], w.Sent[i]
			checkJudged(t, "the other way round", w, allHold)
			w = heardWorld(w, w.Sent[i])
			checkJudged(t, "the other way round, of the second one", w, notRead)
			// With a third one in their midst, or behind them.
			w.Sent[(i+j)%12].Bytes = w.Sent[j].Bytes
			checkJudged(t, "three of them", w, judgedBy(w))
		}
	}
	for i := range 3 {
		three := []impl.Sent{sentFor(routeA, 1, 5), sentFor(routeA, 2, 5), sentFor(routeA, 3, 5)}
		three[1].Bytes, three[2].Bytes = three[0].Bytes, three[0].Bytes
		checkJudged(t, fmt.Sprint("the note of number ", i), heardWorld(sentWorld(t, three...), three[i]), verdict{read: i == 0, once: true, blind: true})
	}
}

// Two notes alike that were sent as unlike bytes are read each.
func TestTwoNotesAlikeAreReadEach(t *testing.T) {
	for i := range 12 {
		for j := range 12 {
			if i == j {
				continue
			}
			w := readWorld(t)
			w.Sent[i].Note = w.Sent[j].Note
			checkJudged(t, "both", heardWorld(w, w.Sent[i], w.Sent[j]), allHold)
			checkJudged(t, "the other way round", heardWorld(w, w.Sent[j], w.Sent[i]), allHold)
			checkJudged(t, "one alone", heardWorld(w, w.Sent[i]), allHold)
			// The note that stood there is none of it any more.
			checkJudged(t, "the note that stood there", heardWorld(w, impl.Sent{Note: someSent()[i].Note, Bytes: w.Sent[i].Bytes}), notRead)
		}
	}
	same := sentFor(routeA, 1, 5)
	w := sentWorld(t, same, same)
	checkJudged(t, "all is alike, read once", heardWorld(w, same), allHold)
	checkJudged(t, "all is alike, read twice", heardWorld(w, same, same), noneHolds)
}

// That it is read by another place than it was sent at is no fault; that the notes are changed for each other is.
func TestTheOrderOfWhatIsRead(t *testing.T) {
	sent := someSent()
	from := rand.New(rand.NewSource(3))
	for many := range 13 {
		for range 5 {
			var heard []impl.Sent
			for _, place := range from.Perm(12)[:many] {
				heard = append(heard, sent[place])
			}
			w := heardWorld(sentWorld(t, sent...), heard...)
			checkJudged(t, fmt.Sprint(many, " are read"), w, allHold)
			for i := range many {
				j := from.Intn(many)
				w.Reader.Got[i], w.Reader.Got[j] = w.Reader.Got[j], w.Reader.Got[i]
				checkJudged(t, "notes changed for each other", w, verdict{read: i == j, once: true, blind: true})
				w.Reader.Got[i], w.Reader.Got[j] = w.Reader.Got[j], w.Reader.Got[i]
				w.Reader.Seen[i], w.Reader.Seen[j] = w.Reader.Seen[j], w.Reader.Seen[i]
				checkJudged(t, "letters changed for each other", w, verdict{read: i == j, once: true, blind: true})
				w.Reader.Seen[i], w.Reader.Seen[j] = w.Reader.Seen[j], w.Reader.Seen[i]
			}
		}
	}
}

func TestNoMoreIsReadThanWasSent(t *testing.T) {
	for sent := range 13 {
		all := someSent()[:sent]
		for got := range 21 {
			// What was not sent is not read as it was written, so where more is read than was sent, that fails as well.
			w := sentWorld(t, all...)
			w.Reader = soManySeen(got)
			checkJudged(t, fmt.Sprint(got, " others are read, ", sent, " were sent"), w, verdict{read: got == 0, once: got <= sent, blind: true})
			w = heardWorld(w, all...)
			w.Reader.Seen, w.Reader.Got = append(w.Reader.Seen, someSeen(20)[sent:]...), append(w.Reader.Got, someSeen(20)[sent:]...)
			w.Reader.Seen, w.Reader.Got = w.Reader.Seen[:got], w.Reader.Got[:got]
			checkJudged(t, fmt.Sprint(got, " are read, ", sent, " were sent"), w, verdict{read: got <= sent, once: got <= sent, blind: true})
		}
	}
	// Two that were sent as the same bytes are two, though one of them alone may be read.
	one := sentFor(routeA, 1, 5)
	two := one
	two.Note = []byte("other")
	checkJudged(t, "one of the two", heardWorld(sentWorld(t, one, two), one), allHold)
	w := heardWorld(sentWorld(t, one, two), one, sentFor(routeA, 2, 5))
	checkJudged(t, "as many as were sent", w, notRead)
}

func TestWhatWaitsWasSent(t *testing.T) {
	sent := someSent()
	w := sentWorld(t, sent...)
	for place, s := range sent {
		x := itemFor(s)
		others := itemsFor(slices.Concat(sent[:place], sent[place+1:])[:9]...)
		checkWithItem(t, "as it was sent", w, x, true, others...)
		b := x.Bytes
		for what, none := range map[string][]byte{
			"another first byte": bent(b, 0, 1), "another byte": bent(b, 40, 128), "another last byte": bent(b, len(b)-1, 1), "a byte less": b[:len(b)-1], "a byte less ahead": b[1:],
			"a byte more": append(bytes.Clone(b), 0), "nothing": nil, "its note": s.Note, "its note, padded": paddedOf(s.Note), "one that was not sent": sentFor(s.Route, 13, len(s.Note)).Bytes,
		} {
			x.Bytes = none
			checkWithItem(t, what, w, x, false)
			checkWithItem(t, what, w, x, false, others[:3]...)
		}
	}
	for _, x := range itemsFor(sent...) {
		checkWithItem(t, "nothing was sent", newWorld(t), x, false)
	}
	// At each place of all that there can be, and beside nothing else that is wrong.
	stranger := itemFor(sentFor("00000000000000ff", 13, 5))
	checkWithItem(t, "a stranger", w, stranger, false, itemsFor(sent[:9]...)...)
	for place := range 12 {
		full := fullWorld(t)
		full.Net[place] = impl.Wire{ToPost: true, Item: stranger}
		checkJudged(t, fmt.Sprint("a stranger to the post at place ", place), full, notBlind)
		full.Net[place] = impl.Wire{Bytes: stranger.Bytes}
		checkJudged(t, fmt.Sprint("a stranger to the reader at place ", place), full, notBlind)
	}
}

func TestWhatWaitsGoesByItsRoute(t *testing.T) {
	sent := someSent()
	w := sentWorld(t, sent...)
	for place, s := range sent {
		x := itemFor(s)
		routes := []string{sent[(place+3)%12].Route, routeC, strings.Repeat("f", 16), libraryKeysAt(t, alike(2), s.Epoch).route}
		for at := range 16 {
			routes = append(routes, s.Route[:at]+"e"+s.Route[at+1:])
		}
		for _, route := range routes {
			x.Route = route
			checkWithItem(t, "another route", w, x, false)
		}
		checkWithItem(t, "another route", w, x, false, itemsFor(sent[9:]...)...)
	}
	// Of two that were sent as the same bytes the route of the first one counts.
	for i := range 12 {
		for j := range i {
			both := someSent()
			both[i] = both[j]
			both[i].Route = routeA
			for _, each := range [][]impl.Sent{both, slices.Concat(both[:j], both[i:i+1], both[j+1:i], both[j:j+1], both[i+1:])} {
				first, second := itemFor(each[j]), itemFor(each[i])
				checkWithItem(t, fmt.Sprint("the route of the first one, ", j, " and ", i), sentWorld(t, each...), first, true)
				checkWithItem(t, fmt.Sprint("the route of the second one, ", j, " and ", i), sentWorld(t, each...), second, false)
			}
		}
	}
}

func TestWhatWaitsTellsNoMore(t *testing.T) {
	for _, c := range padSizes {
		for _, size := range []int{
			c.want + 48, c.want + 49, c.want + 50, c.want + 51, c.want + 52, c.want + 53, c.want + 51 - 32, c.want + 51 + 32, c.want + 51 - 96, c.want + 51 + 96,
			c.want, c.want + 16, c.want + 35, c.many, c.many + 2, c.many + 51, c.many + 53, 51, 0, mostBytes,
		} {
			if size < 0 {
				continue
			}
			s := sentFor(routeA, 1, c.many)
			s.Bytes = someBytes(size)
			right := size == c.want+51
			w := sentWorld(t, sentFor(routeB, 2, 9), s, sentFor(routeB, 3, 99))
			what := fmt.Sprint(size, " bytes of a note of ", c.many)
			checkWithItem(t, what, w, itemFor(s), right, itemFor(w.Sent[0]), itemFor(w.Sent[2]))
			// On its way to the reader, and by the reader, it may be of any length.
			checkJudged(t, what+", to the reader", worldWith(w, impl.Wire{Bytes: s.Bytes}), allHold)
			checkJudged(t, what+", read", heardWorld(w, s), allHold)
		}
	}
	// Of two that were sent as the same bytes the note of the first one counts.
	for _, one := range padSizes {
		for _, other := range padSizes {
			first, second := sentFor(routeA, 1, one.many), sentFor(routeA, 2, other.many)
			second.Bytes = first.Bytes
			checkWithItem(t, "as long as the note of the first one", sentWorld(t, first, second), itemFor(first), true)
			checkWithItem(t, "as long as the note of the second one", sentWorld(t, second, first), itemFor(first), one.want == other.want)
		}
	}
}

// A topic, a due and an epoch are told by what waits as they are: the judge asks for none of them.
func TestWhatTheJudgeDoesNotAskFor(t *testing.T) {
	for _, epoch := range keyEpochs {
		s := sentFor(routeC, 1, 95)
		s.Epoch = epoch
		w := sentWorld(t, s)
		for topic := range 10 {
			for _, due := range dueEdges {
				x := itemFor(s)
				x.Topic, x.Due = topic, due
				checkWithItem(t, "any topic and due", w, x, true)
			}
		}
		w.Known, w.Reader.Epoch = 40-epoch, epoch
		checkWithItem(t, "any known epoch", w, itemFor(s), true)
	}
	w := fullWorld(t)
	w.Post.Sure = len(w.Post.Book) / 2
	checkJudged(t, "sure in part", w, allHold)
	w.Seed, w.Reader.Seed = w.Reader.Seed, w.Seed
	checkJudged(t, "of other seeds", w, allHold)
}

func TestWhatIsOnItsWayToTheReaderWasSent(t *testing.T) {
	sent := someSent()
	w := sentWorld(t, sent...)
	for i, s := range sent {
		for place := range 12 {
			net := slices.Repeat([]impl.Wire{{Bytes: sent[11].Bytes}}, 11)
			checkJudged(t, fmt.Sprint("number ", i, " at place ", place), worldWith(w, slices.Insert(slices.Clone(net), place, impl.Wire{Bytes: s.Bytes})...), allHold)
			checkJudged(t, "another byte", worldWith(w, slices.Insert(slices.Clone(net), place, impl.Wire{Bytes: bent(s.Bytes, len(s.Bytes)-1, 1)})...), notBlind)
		}
		for what, b := range map[string][]byte{
			"another first byte": bent(s.Bytes, 0, 1), "a byte less": s.Bytes[:len(s.Bytes)-1], "a byte more": append(bytes.Clone(s.Bytes), 0), "nothing": nil, "its note": s.Note, "its route": []byte(s.Route),
		} {
			checkJudged(t, what, worldWith(w, impl.Wire{Bytes: b}), notBlind)
		}
	}
	checkJudged(t, "of the last one", worldWith(w, impl.Wire{Bytes: sent[11].Bytes}), allHold)
	// What is gone again was not sent.
	checkJudged(t, "of the last one, which is gone", worldWith(sentWorld(t, sent[:11]...), impl.Wire{Bytes: sent[11].Bytes}), notBlind)
	checkJudged(t, "of the first one, which is gone", worldWith(sentWorld(t, sent[1:]...), impl.Wire{Bytes: sent[0].Bytes}), notBlind)
	// Room behind what was sent does not count.
	short := sentWorld(t, sent[:11]...)
	if cap(short.Sent) < 12 {
		t.Fatal("there is no room behind it")
	}
	checkJudged(t, "in the room behind", heardWorld(short, sent[11]), notRead)
}

// A world that is not WorldOk is judged false by each of the four, whatever else is right.
func TestWorldsWithOneFaultAreJudgedFalse(t *testing.T) {
	busy := busyWorld(t)
	for what, fault := range worldFaults(t) {
		w := clonedWorld(busy)
		fault(&w)
		checkJudged(t, what, w, noneHolds)
	}
	for what, x := range wrongWires(t) {
		for a := range len(busy.Net) + 1 {
			checkJudged(t, what, worldWith(busy, slices.Insert(slices.Clone(busy.Net), a, x)...), noneHolds)
		}
	}
	for what, s := range wrongSent() {
		for a := range busy.Sent {
			w := clonedWorld(busy)
			w.Sent[a] = s
			checkJudged(t, what, w, noneHolds)
			w = clonedWorld(busy)
			w.Sent = slices.Insert(w.Sent, a, s)
			w.Count++
			checkJudged(t, what, w, noneHolds)
		}
	}
	for what, w := range map[string]impl.World{"13 are sent": worldOf(t, 13, 0), "13 are on their way": worldOf(t, 0, 13), "many are on their way": worldOf(t, 0, 500)} {
		checkJudged(t, what, w, noneHolds)
	}
}

// The faults that a full world may have: all else of it is right, as it is of one with nothing.
func TestFullWorldsWithOneFaultAreJudgedFalse(t *testing.T) {
	faults := map[string]func(w *impl.World){
		"one more is on its way": func(w *impl.World) { w.Net = append(w.Net, w.Net[11]) },
		"one more is sent":       func(w *impl.World) { w.Sent, w.Count = append(w.Sent, w.Sent[0]), 13 },
		"one less is counted":    func(w *impl.World) { w.Count = 11 },
		"one more is counted":    func(w *impl.World) { w.Count = 13 },
		"none is counted":        func(w *impl.World) { w.Count = 0 },
		"the first one is gone":  func(w *impl.World) { w.Sent = w.Sent[1:] },
		"an epoch is none":       func(w *impl.World) { w.Sent[11].Epoch = 41 },
		"one note less":          func(w *impl.World) { w.Reader.Got = w.Reader.Got[:11] },
		"one note more":          func(w *impl.World) { w.Reader.Got = append(w.Reader.Got, w.Reader.Got[0]) },
		"one less is seen":       func(w *impl.World) { w.Reader.Seen = w.Reader.Seen[:11] },
		"a queue in an order of its own": func(w *impl.World) {
			w.Post.Queue[0], w.Post.Queue[1] = w.Post.Queue[1], w.Post.Queue[0]
		},
		"one less waits than the book tells": func(w *impl.World) { w.Post.Queue = w.Post.Queue[:9] },
		"nothing waits":                      func(w *impl.World) { w.Post.Queue = nil },
		"no book":                            func(w *impl.World) { w.Post.Book = nil },
		"the time":                           func(w *impl.World) { w.Post.Time = 1 },
		"a seed of 31":                       func(w *impl.World) { w.Seed = w.Seed[:31] },
		"a reader's seed of 31":              func(w *impl.World) { w.Reader.Seed = w.Reader.Seed[:31] },
		"known 41":                           func(w *impl.World) { w.Known = 41 },
	}
	for place := range 12 {
		faults[fmt.Sprint("seen twice, also as number ", place)] = func(w *impl.World) {
			twice := (place + 7) % 12
			w.Reader.Seen[place], w.Reader.Got[place] = w.Reader.Seen[twice], w.Reader.Got[twice]
		}
		faults[fmt.Sprint("seen twice, number ", place)] = func(w *impl.World) {
			w.Reader.Seen, w.Reader.Got = append(w.Reader.Seen, w.Reader.Seen[place]), append(w.Reader.Got, w.Reader.Got[place])
		}
	}
	for what, fault := range faults {
		w := clonedWorld(fullWorld(t))
		checkJudged(t, "ahead of it", w, allHold)
		fault(&w)
		checkJudged(t, what, w, noneHolds)
	}
	// Read twice it would be no more than was sent, too, so that it is refused by nothing else.
	w := sentWorld(t, someSent()...)
	checkJudged(t, "one alone", heardWorld(w, w.Sent[4]), allHold)
	checkJudged(t, "one twice", heardWorld(w, w.Sent[4], w.Sent[4]), noneHolds)
}

// What fails alone is enough for JudgeAll. (That more is read than was sent never fails alone: then one at least was not sent.)
func TestEachAloneIsEnough(t *testing.T) {
	readWrong := func(w *impl.World) { w.Reader.Got[3] = []byte("wrong") }
	onceWrong := func(w *impl.World) {
		w.Reader.Seen, w.Reader.Got = append(w.Reader.Seen, []byte("one more")), append(w.Reader.Got, nil)
	}
	waitWrong := func(w *impl.World) { *w = waitingWorld(t, *w, dueAt(itemOf(routeA, 1, "wrong"), 50)) }
	postWrong := func(w *impl.World) { w.Net[2] = impl.Wire{ToPost: true, Item: itemOf(routeA, 1, "wrong")} }
	readerWrong := func(w *impl.World) { w.Net[9] = impl.Wire{Bytes: []byte("wrong")} }
	for what, c := range map[string]struct {
		faults []func(w *impl.World)
		want   verdict
	}{
		"none":                          {nil, allHold},
		"what is read":                  {[]func(w *impl.World){readWrong}, notRead},
		"how much is read":              {[]func(w *impl.World){onceWrong}, verdict{blind: true}},
		"what waits":                    {[]func(w *impl.World){waitWrong}, notBlind},
		"what is on its way there":      {[]func(w *impl.World){postWrong}, notBlind},
		"what is on its way back":       {[]func(w *impl.World){readerWrong}, notBlind},
		"what is read, and what waits":  {[]func(w *impl.World){readWrong, waitWrong}, verdict{once: true}},
		"what is read, and how much":    {[]func(w *impl.World){readWrong, onceWrong}, verdict{blind: true}},
		"how much is read, and waits":   {[]func(w *impl.World){onceWrong, waitWrong}, noneHolds},
		"all that is on its way":        {[]func(w *impl.World){waitWrong, postWrong, readerWrong}, notBlind},
		"all of it":                     {[]func(w *impl.World){readWrong, onceWrong, waitWrong, postWrong, readerWrong}, noneHolds},
		"what is read, and on its ways": {[]func(w *impl.World){readWrong, postWrong, readerWrong}, verdict{once: true}},
	} {
		w := fullWorld(t)
		for _, fault := range c.faults {
			fault(&w)
		}
		checkWorldOk(t, what, w, true)
		checkJudged(t, what, w, c.want)
	}
}

// tampered turns one thing of a world, often such that it is WorldOk still.
func tampered(t *testing.T, from *rand.Rand, w impl.World) impl.World {
	w = clonedWorld(w)
	sent := from.Intn(len(w.Sent))
	other := from.Intn(len(w.Sent))
	switch from.Intn(13) {
	case 0:
		w.Sent[sent].Bytes = w.Sent[other].Bytes
	case 1:
		w.Sent[sent].Note = w.Sent[other].Note
	case 2:
		w.Sent[sent].Route = w.Sent[other].Route
	case 3:
		w.Sent[sent], w.Sent[other] = w.Sent[other], w.Sent[sent]
	case 4:
		w.Sent = slices.Delete(w.Sent, sent, sent+1)
		w.Count -= 1 - from.Intn(8)/7
	case 5:
		w.Sent[sent].Note = someBytes(from.Intn(201))
	case 6:
		if len(w.Reader.Got) > 0 {
			w.Reader.Got[from.Intn(len(w.Reader.Got))] = w.Sent[sent].Note
		}
	case 7:
		w.Reader.Seen, w.Reader.Got = append(w.Reader.Seen, w.Sent[sent].Bytes), append(w.Reader.Got, w.Sent[sent].Note)
	case 8:
		w.Net = append(w.Net, impl.Wire{Bytes: w.Sent[sent].Bytes})
	case 9:
		w.Net = append(w.Net, impl.Wire{ToPost: true, Item: itemFor(w.Sent[sent])})
	case 10:
		w.Net = append(w.Net, impl.Wire{ToPost: true, Item: impl.Item{Route: w.Sent[other].Route, Bytes: w.Sent[sent].Bytes}})
	case 11:
		w = waitingWorld(t, w, itemFor(w.Sent[sent]), itemFor(w.Sent[other]))
	case 12:
		w.Sent[sent].Bytes = bent(w.Sent[sent].Bytes, from.Intn(len(w.Sent[sent].Bytes)), 1)
	}
	return w
}

func TestJudgedAgainstAMap(t *testing.T) {
	from := rand.New(rand.NewSource(81))
	count := map[string]int{}
	for _, start := range []impl.World{fullWorld(t), readWorld(t), busyWorld(t), sentWorld(t, someSent()...)} {
		for range 1500 {
			w := start
			for range 1 + from.Intn(4) {
				if len(w.Sent) > 1 {
					w = tampered(t, from, w)
				}
			}
			said := judgedBy(w)
			checkJudged(t, "tampered with", w, said)
			count[fmt.Sprint("world ", worldFits(w))]++
			count[fmt.Sprintf("%+v", said)]++
		}
	}
	for _, want := range []verdict{allHold, noneHolds, notRead, notBlind, {once: true}} {
		if what := fmt.Sprintf("%+v", want); count[what] < 100 {
			t.Errorf("%s: %d times only", what, count[what])
		}
	}
	if count["world false"] < 100 || count["world true"] < 1000 {
		t.Errorf("%d are right, and %d are not", count["world true"], count["world false"])
	}
}

// judgedWorlds are judged in many ways, with room behind each of their lists.
func judgedWorlds(t *testing.T) map[string]impl.World {
	t.Helper()
	busy, full, wrong := roomyWorld(t), fullWorld(t), fullWorld(t)
	busy.Net = busy.Net[:2]
	wrong.Reader.Got[11] = []byte("wrong")
	wrong.Net[11] = impl.Wire{Bytes: []byte("wrong")}
	worlds := map[string]impl.World{"busy": busy, "full": full, "wrong": wrong, "none": worldOf(t, 13, 13), "new": newWorld(t), "stranger": roomyWorld(t)}
	for what, w := range worlds {
		w = clonedWorld(w)
		for _, list := range listsOf(&w) {
			*list = roomyBytes(*list)
		}
		w.Net, w.Sent, w.Post.Queue = slices.Grow(w.Net, 9), slices.Grow(w.Sent, 9), slices.Grow(w.Post.Queue, 12)
		w.Reader.Seen, w.Reader.Got = slices.Grow(w.Reader.Seen, 9), slices.Grow(w.Reader.Got, 9)
		worlds[what] = w
	}
	return worlds
}

func TestTheJudgeLeavesItsArgumentsAlone(t *testing.T) {
	for what, w := range judgedWorlds(t) {
		// Behind each list there is room, in which others stand.
		wide := w
		wide.Net, wide.Sent, wide.Post.Queue = append(w.Net, netOf(7)...), append(w.Sent, sentOf(9)...), append(w.Post.Queue, fullQueue()...)
		wide.Reader.Seen, wide.Reader.Got = append(w.Reader.Seen, someSeen(5)...), append(w.Reader.Got, someSeen(7)...)
		var whole, kept [][]byte
		for _, list := range listsOf(&wide) {
			whole = append(whole, (*list)[:cap(*list)])
		}
		kept, keptWide := clonedLists(whole), clonedWorld(wide)
		said := judgedBy(w)
		for range 3 {
			checkJudged(t, what, w, said)
		}
		if !sameWorld(wide, keptWide) || !sameLists(whole, kept) {
			t.Errorf("%s: what was given turned into %s, want %s", what, shownWorld(wide), shownWorld(keptWide))
		}
	}
}

// A world that is written over behind a call is judged as it is then.
func TestTheJudgeKeepsNothing(t *testing.T) {
	for what, w := range judgedWorlds(t) {
		said := judgedBy(w)
		checkJudged(t, what, w, said)
		kept := clonedWorld(w)
		writeOverWorld(w)
		checkJudged(t, what+", written over", w, judgedBy(w))
		checkJudged(t, what+", as it was", kept, said)
	}
}

func TestJudgesOfManyAtATime(t *testing.T) {
	worlds := judgedWorlds(t)
	want := map[string]verdict{}
	for what, w := range worlds {
		want[what] = judgedBy(w)
	}
	var all sync.WaitGroup
	for range 16 {
		all.Go(func() {
			for range 20 {
				for what, w := range worlds {
					got := verdict{impl.JudgeRead(w), impl.JudgeOnce(w), impl.JudgeBlind(w)}
					if got != want[what] || impl.JudgeAll(w) != (got == allHold) {
						t.Errorf("%s: the judge says %+v, want %+v", what, got, want[what])
					}
				}
			}
		})
	}
	all.Wait()
}

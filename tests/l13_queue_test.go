package tests

import (
	"bytes"
	"fmt"
	"math"
	"math/rand"
	"slices"
	"strings"
	"sync"
	"testing"

	"loop.example/g00473/impl"
)

const (
	routeA = "00000000000000aa"
	routeB = "00000000000000ab"
	routeC = "fedcba9876543210"

	mostBytes = impl.MaxPlain + 60
)

var (
	// noRoutes are beside 16 signs of Hex; some have as many bytes or runes, or bytes that stand for such signs elsewhere.
	noRoutes = []string{
		"", "0", "aa", routeA[:14], routeA[:15], routeA + "0", routeA + "00", routeA + routeA,
		"00000000000000AA", "00000000000000aA", "A0000000000000aa", "FEDCBA9876543210", "0x000000000000aa",
		"00000000000000ag", "00000000000000a ", " 00000000000000a", "00000000000000a\n", "00000000000000a\x00", "-0000000000000aa", "+0000000000000aa",
		"00000000000000\u0430", "00000000000000\xff\xff", "00000000\u0660\u0661\u0662\u0663", strings.Repeat("\u00e9", 8), strings.Repeat("\u0661", 16), strings.Repeat("\x00", 16), strings.Repeat("\x0a", 16), strings.Repeat(routeA, 4000),
	}
	noTopics    = []int{-1, -2, -9, 10, 11, 255, 256, 257, 65536, 1 << 32, 1<<32 + 2, math.MinInt, math.MaxInt}
	dueEdges    = []int{0, 1, 9, impl.MaxTime - 1, impl.MaxTime}
	noDues      = []int{-1, -2, -impl.MaxTime, impl.MaxTime + 1, impl.MaxTime + 2, 1 << 32, 1<<32 + 1, math.MinInt, math.MaxInt}
	bytesEdges  = []int{0, 1, impl.MaxPlain, impl.MaxPlain + 1, mostBytes - 1, mostBytes}
	noByteSizes = []int{mostBytes + 1, mostBytes + 2, 2 * mostBytes, 65536, 1 << 20}
)

func itemOf(route string, topic int, note string) impl.Item {
	return impl.Item{Route: route, Topic: topic, Due: 9, Bytes: []byte(note)}
}

func dueAt(x impl.Item, due int) impl.Item {
	x.Due = due
	return x
}

func sameItem(a, b impl.Item) bool {
	return a.Route == b.Route && a.Topic == b.Topic && a.Due == b.Due && bytes.Equal(a.Bytes, b.Bytes)
}

func sameItems(a, b []impl.Item) bool { return slices.EqualFunc(a, b, sameItem) }

func clonedItems(q []impl.Item) []impl.Item {
	var list []impl.Item
	for _, x := range q {
		x.Bytes = bytes.Clone(x.Bytes)
		list = append(list, x)
	}
	return list
}

// shown tells items in a line, however many bytes they have.
func shown(list ...impl.Item) string {
	var parts []string
	for _, x := range list {
		parts = append(parts, fmt.Sprintf("%.40q %d %d %d:%.12q", x.Route, x.Topic, x.Due, len(x.Bytes), x.Bytes))
	}
	return "[" + strings.Join(parts[:min(len(parts), 20)], ", ") + "]"
}

// itemFits is ItemOk once more, sign by sign.
func itemFits(x impl.Item) bool {
	signs := 0
	for i := range len(x.Route) {
		if strings.IndexByte("0123456789abcdef", x.Route[i]) < 0 {
			return false
		}
		signs++
	}
	return signs == 16 && 0 <= x.Topic && x.Topic < 10 && 0 <= x.Due && x.Due <= 100000 && len(x.Bytes) <= 1560
}

// queueFits is QueueOk once more, by each two of the queue.
func queueFits(q []impl.Item) bool {
	fits := len(q) <= 10
	for i, x := range q {
		ofRoute := 0
		for j, y := range q {
			if x.Route == y.Route {
				ofRoute++
				fits = fits && (i == j || x.Topic == 0 || x.Topic != y.Topic)
			}
		}
		fits = fits && itemFits(x) && ofRoute <= 4
	}
	return fits
}

// putBy is Put once more, by a list alone.
func putBy(q []impl.Item, x impl.Item) ([]impl.Item, bool) {
	var after []impl.Item
	for _, y := range q {
		if y.Route != x.Route || y.Topic != x.Topic || x.Topic <= 0 {
			after = append(after, y)
		}
	}
	after = append(after, x)
	if !queueFits(after) {
		return q, false
	}
	return after, true
}

// takeBy is Take once more; it tells -1 beside what it cannot find.
func takeBy(q []impl.Item, route string) (int, []impl.Item) {
	at := slices.IndexFunc(q, func(x impl.Item) bool { return x.Route == route })
	if at < 0 {
		return -1, q
	}
	return at, slices.Concat(q[:at], q[at+1:])
}

// checkPut holds Put of what is put by a list alone, and hands on what waits then.
func checkPut(t *testing.T, what string, q []impl.Item, x impl.Item) []impl.Item {
	t.Helper()
	want, fits := putBy(q, x)
	got, ok := impl.Put(q, x)
	if ok != fits || !sameItems(got, want) {
		t.Fatalf("%s: Put(%s, %s) = %s, %t, want %s, %t", what, shown(q...), shown(x), shown(got...), ok, shown(want...), fits)
	}
	if ok && !impl.QueueOk(got) {
		t.Fatalf("%s: what waits behind Put is not QueueOk: %s", what, shown(got...))
	}
	return got
}

func checkRefused(t *testing.T, what string, q []impl.Item, x impl.Item) {
	t.Helper()
	if got, ok := impl.Put(q, x); ok || !sameItems(got, q) {
		t.Fatalf("%s: Put(%s, %s) = %s, %t, want it as it was and false", what, shown(q...), shown(x), shown(got...), ok)
	}
}

func checkAccepted(t *testing.T, what string, q []impl.Item, x impl.Item, want []impl.Item) {
	t.Helper()
	if got, ok := impl.Put(q, x); !ok || !sameItems(got, want) {
		t.Fatalf("%s: Put(%s, %s) = %s, %t, want %s, true", what, shown(q...), shown(x), shown(got...), ok, shown(want...))
	}
}

func checkTake(t *testing.T, q []impl.Item, route string) {
	t.Helper()
	at, others := takeBy(q, route)
	x, got, ok := impl.Take(q, route)
	want := impl.Item{}
	if at >= 0 {
		want = q[at]
	}
	if ok != (at >= 0) || !sameItem(x, want) || !sameItems(got, others) {
		t.Fatalf("Take(%s, %q) = %s, %s, %t, want %s, %s", shown(q...), route, shown(x), shown(got...), ok, shown(want), shown(others...))
	}
}

func checkDue(t *testing.T, q []impl.Item, now int) {
	t.Helper()
	var want []impl.Item
	for _, x := range q {
		if !(x.Due < now) {
			want = append(want, x)
		}
	}
	if got := impl.Due(q, now); !sameItems(got, want) {
		t.Fatalf("Due(%s, %d) = %s, want %s", shown(q...), now, shown(got...), shown(want...))
	}
}

func checkOf(t *testing.T, q []impl.Item, route string, want int) {
	t.Helper()
	if got := impl.Of(q, route); got != want {
		t.Fatalf("Of(%s, %q) = %d, want %d", shown(q...), route, got, want)
	}
}

// allPut is what waits behind all of the list, which have room.
func allPut(t *testing.T, list ...impl.Item) []impl.Item {
	t.Helper()
	var q []impl.Item
	for _, x := range list {
		after, ok := impl.Put(q, x)
		if !ok {
			t.Fatalf("Put(%s, %s) = %s, false", shown(q...), shown(x), shown(after...))
		}
		q = after
	}
	return q
}

// fullQueue has MaxWait: of two routes MaxRoute, of a third one two.
func fullQueue() []impl.Item {
	return []impl.Item{
		itemOf(routeA, 1, "a1"), itemOf(routeB, 1, "b1"), itemOf(routeA, 0, "a0"), itemOf(routeC, 9, "c9"), itemOf(routeB, 0, "b0"),
		itemOf(routeA, 9, "a9"), itemOf(routeB, 2, "b2"), itemOf(routeA, 0, "a0"), itemOf(routeC, 0, "c0"), itemOf(routeB, 9, "b9"),
	}
}

// badItems are each wrong in one thing alone, of the route and the topic that are told where these are right.
func badItems(route string, topic int) []impl.Item {
	var list []impl.Item
	right := itemOf(route, topic, "bad")
	for _, r := range noRoutes {
		list = append(list, itemOf(r, topic, "bad"))
	}
	for _, n := range noTopics {
		list = append(list, itemOf(route, n, "bad"))
	}
	for _, due := range noDues {
		list = append(list, dueAt(right, due))
	}
	for _, many := range noByteSizes {
		list = append(list, itemOf(route, topic, string(make([]byte, many))))
	}
	return list
}

func TestItemOkAtTheEdges(t *testing.T) {
	routes, topics := []string{routeA, routeB, routeC, strings.Repeat("0", 16), strings.Repeat("f", 16)}, []int{0, 1, 8, 9}
	b := make([]byte, 1<<20)
	for i, route := range slices.Concat(routes, noRoutes) {
		for j, topic := range slices.Concat(topics, noTopics) {
			for k, due := range slices.Concat(dueEdges, noDues) {
				for l, many := range slices.Concat(bytesEdges, noByteSizes) {
					x := impl.Item{Route: route, Topic: topic, Due: due, Bytes: b[:many]}
					want := i < len(routes) && j < len(topics) && k < len(dueEdges) && l < len(bytesEdges)
					if got := impl.ItemOk(x); got != want {
						t.Fatalf("ItemOk of %q, %d, %d and %d bytes is %t", route, topic, due, many, got)
					}
				}
			}
		}
	}
	if impl.ItemOk(impl.Item{}) {
		t.Error("nothing is ItemOk")
	}
	if !impl.ItemOk(impl.Item{Route: routeA}) {
		t.Error("a route alone is not ItemOk")
	}
}

func TestItemOkOfEachNumber(t *testing.T) {
	for n := -300; n < 70000; n++ {
		if got := impl.ItemOk(impl.Item{Route: routeA, Topic: n}); got != (0 <= n && n <= 9) {
			t.Fatalf("ItemOk of topic %d is %t", n, got)
		}
	}
	for due := -1000; due < impl.MaxTime+1000; due++ {
		if got := impl.ItemOk(impl.Item{Route: routeA, Due: due}); got != (0 <= due && due <= 100000) {
			t.Fatalf("ItemOk of due %d is %t", due, got)
		}
	}
	b := make([]byte, 4000)
	for many := range b {
		if got := impl.ItemOk(impl.Item{Route: routeA, Bytes: b[:many]}); got != (many <= 1560) {
			t.Fatalf("ItemOk of %d bytes is %t", many, got)
		}
	}
}

func TestItemOkOfEachSign(t *testing.T) {
	for place := range routeC {
		for sign := range 256 {
			route := []byte(routeC)
			route[place] = byte(sign)
			x := itemOf(string(route), 1, "")
			if got := impl.ItemOk(x); got != itemFits(x) {
				t.Fatalf("ItemOk of the route %q is %t", route, got)
			}
		}
	}
	for many := range 40 {
		if got := impl.ItemOk(itemOf(strings.Repeat("7", many), 1, "")); got != (many == 16) {
			t.Fatalf("ItemOk of a route of %d signs is %t", many, got)
		}
	}
}

// A route of a seed's is one that may wait, at every epoch that there is.
func TestItemsOfRoutesOfASeed(t *testing.T) {
	for epoch := -1; epoch <= impl.MaxEpoch+1; epoch++ {
		want := 0 <= epoch && epoch <= impl.MaxEpoch
		if got := impl.ItemOk(itemOf(impl.RouteOf(alike(1), epoch), 1, "")); got != want {
			t.Errorf("ItemOk of the route of epoch %d is %t", epoch, got)
		}
	}
}

// A letter of the greatest note, told as bytes, is one that may wait.
func TestItemsOfLetters(t *testing.T) {
	l, _ := impl.Write(alike(1), impl.PublicOf(alike(2), 3), 3, someBytes(impl.MaxNote))
	checkAccepted(t, "a letter", nil, itemOf(routeA, 1, string(impl.LetterBytes(l))), []impl.Item{itemOf(routeA, 1, string(impl.LetterBytes(l)))})
	l.Box = make([]byte, impl.MaxPlain+16)
	if b := impl.LetterBytes(l); len(b) != 1551 || !impl.ItemOk(itemOf(routeA, 1, string(b))) {
		t.Errorf("the greatest letter, of %d bytes, is not ItemOk", len(b))
	}
}

func checkQueueOk(t *testing.T, what string, q []impl.Item, want bool) {
	t.Helper()
	if got := impl.QueueOk(q); got != want {
		t.Fatalf("%s: QueueOk(%s) = %t", what, shown(q...), got)
	}
}

// freeItems are as many of topic 0, MaxRoute of one route.
func freeItems(many int) []impl.Item {
	var q []impl.Item
	for i := range many {
		q = append(q, itemOf(fmt.Sprintf("%016x", i/impl.MaxRoute), 0, fmt.Sprint(i)))
	}
	return q
}

func TestQueueOkAtTheEdges(t *testing.T) {
	checkQueueOk(t, "nil", nil, true)
	checkQueueOk(t, "none", []impl.Item{}, true)
	checkQueueOk(t, "full", fullQueue(), true)
	for many := range 40 {
		checkQueueOk(t, "so many of several routes", freeItems(many), many <= 10)
		checkQueueOk(t, "so many of one route", slices.Repeat([]impl.Item{itemOf(routeA, 0, "")}, many), many <= 4)
	}
	checkQueueOk(t, "far too many", freeItems(100000), false)
	var each []impl.Item
	for i := range 10 {
		each = append(each, itemOf(fmt.Sprintf("%016x", i), 7, ""))
	}
	checkQueueOk(t, "one topic of ten routes", each, true)
	checkQueueOk(t, "one topic of eleven routes", append(each, itemOf(routeC, 7, "")), false)
	var topics []impl.Item
	for topic := 1; topic <= 4; topic++ {
		topics = append(topics, itemOf(routeA, topic, ""))
	}
	checkQueueOk(t, "four topics of one route", topics, true)
	checkQueueOk(t, "five topics of one route", append(topics, itemOf(routeA, 5, "")), false)
	checkQueueOk(t, "four topics of one route, and none of it", append(topics, itemOf(routeA, 0, "")), false)
	checkQueueOk(t, "four topics of one route, and one of another", append(topics, itemOf(routeB, 1, "")), true)
}

func TestQueueOkOfOneTopicTwice(t *testing.T) {
	for topic := range 10 {
		one, two := itemOf(routeA, topic, "one"), dueAt(itemOf(routeA, topic, "two"), 10)
		for _, between := range [][]impl.Item{nil, {itemOf(routeB, topic, "")}, {itemOf(routeA, (topic+1)%10, ""), itemOf(routeC, topic, "")}} {
			q := slices.Concat([]impl.Item{one}, between, []impl.Item{two})
			checkQueueOk(t, "one topic twice", q, topic == 0)
			checkQueueOk(t, "one topic once", q[1:], true)
			checkQueueOk(t, "one and the same twice", slices.Concat([]impl.Item{one}, between, []impl.Item{one}), topic == 0)
		}
	}
}

func TestQueueOkOfOneThatIsNone(t *testing.T) {
	for _, bad := range append(badItems(routeC, 3), impl.Item{}) {
		checkQueueOk(t, "one alone", []impl.Item{bad}, false)
		for place := range 10 {
			q := fullQueue()
			q[place] = bad
			checkQueueOk(t, "one among ten", q, false)
		}
	}
}

// Promise 13, step by step: of the items of one route and topic the last one alone waits, behind all others.
func TestOfATopicTheLastOneWaits(t *testing.T) {
	a1, b1, a0, c1 := itemOf(routeA, 1, "a1"), itemOf(routeB, 1, "b1"), itemOf(routeA, 0, "a0"), itemOf(routeC, 1, "c1")
	a2, other0 := itemOf(routeA, 2, "a2"), itemOf(routeA, 0, "another")
	newA1, newB1, newA2 := dueAt(itemOf(routeA, 1, "new"), 4), itemOf(routeB, 1, "new"), itemOf(routeA, 2, "new")
	q := []impl.Item{a1}
	for _, step := range []struct {
		what string
		x    impl.Item
		want []impl.Item
	}{
		{"the topic of another route", b1, []impl.Item{a1, b1}},
		{"no topic", a0, []impl.Item{a1, b1, a0}},
		{"another topic", a2, []impl.Item{a1, b1, a0, a2}},
		{"the first one's topic", newA1, []impl.Item{b1, a0, a2, newA1}},
		{"once more, the same", newA1, []impl.Item{b1, a0, a2, newA1}},
		{"another one with no topic", other0, []impl.Item{b1, a0, a2, newA1, other0}},
		{"a topic in the midst", newA2, []impl.Item{b1, a0, newA1, other0, newA2}},
		{"the same topic of a third route", c1, []impl.Item{b1, a0, newA1, other0, newA2, c1}},
		{"the topic of the other route", newB1, []impl.Item{a0, newA1, other0, newA2, c1, newB1}},
	} {
		checkAccepted(t, step.what, q, step.x, step.want)
		q, _ = impl.Put(q, step.x)
	}
}

func TestOfEachTopicTheLastOneWaits(t *testing.T) {
	for topic := 1; topic <= 9; topic++ {
		before := []impl.Item{itemOf(routeB, topic, "b"), itemOf(routeA, 0, "none"), itemOf(routeC, topic, "c")}
		q := slices.Clone(before)
		for i := range 30 {
			x := dueAt(itemOf(routeA, topic, fmt.Sprint(i)), i*100)
			checkAccepted(t, "a topic anew", q, x, append(slices.Clone(before), x))
			q, _ = impl.Put(q, x)
		}
	}
	checkAccepted(t, "topics 1 and 9", allPut(t, itemOf(routeA, 9, "9")), itemOf(routeA, 1, "1"), []impl.Item{itemOf(routeA, 9, "9"), itemOf(routeA, 1, "1")})
}

func TestOfNoTopicEachOneWaits(t *testing.T) {
	one := itemOf(routeA, 0, "the same")
	q := allPut(t, one, one, itemOf(routeB, 0, "b"), one, one)
	if want := []impl.Item{one, one, itemOf(routeB, 0, "b"), one, one}; !sameItems(q, want) {
		t.Errorf("what waits is %s, want %s", shown(q...), shown(want...))
	}
	checkRefused(t, "a fifth one", q, one)
	checkOf(t, q, routeA, 4)
	checkOf(t, q, routeB, 1)
}

// Promise 13, held against a book of its own: whatever is put, the last one of each route and topic that was accepted waits.
func TestTheLastOfEachTopicWaitsAmongMany(t *testing.T) {
	from := rand.New(rand.NewSource(13))
	for range 200 {
		var q []impl.Item
		last, free := map[string]string{}, 0
		for i := range 60 {
			x := itemOf([]string{routeA, routeB, routeC}[from.Intn(3)], from.Intn(4), fmt.Sprint(i))
			after, ok := impl.Put(q, x)
			if ok && x.Topic == 0 {
				free++
			} else if ok {
				last[fmt.Sprint(x.Route, x.Topic)] = string(x.Bytes)
			}
			q = after
			if ok && !sameItem(q[len(q)-1], x) {
				t.Fatalf("%s is not behind all of %s", shown(x), shown(q...))
			}
			topics := 0
			for _, y := range q {
				if y.Topic > 0 {
					topics++
					if last[fmt.Sprint(y.Route, y.Topic)] != string(y.Bytes) {
						t.Fatalf("%s waits, the last one is %s", shown(y), last[fmt.Sprint(y.Route, y.Topic)])
					}
				}
			}
			if topics != len(last) || len(q) != topics+free {
				t.Fatalf("of %d topics and %d without, %s waits", len(last), free, shown(q...))
			}
		}
	}
}

func TestPutWhereThereIsNoRoom(t *testing.T) {
	full := fullQueue()
	for _, route := range []string{routeA, routeB, routeC, strings.Repeat("1", 16)} {
		for topic := range 10 {
			x := itemOf(route, topic, "new")
			at := slices.IndexFunc(full, func(y impl.Item) bool { return y.Route == route && y.Topic == topic })
			if topic == 0 || at < 0 {
				checkRefused(t, "into a full queue", full, x)
				continue
			}
			checkAccepted(t, "a topic anew in a full queue", full, x, slices.Concat(full[:at], full[at+1:], []impl.Item{x}))
		}
	}
	nine := full[:9:9]
	checkRefused(t, "one more of a route that is full", nine, itemOf(routeA, 3, "new"))
	checkRefused(t, "one more of a route that is full, of no topic", nine, itemOf(routeA, 0, "new"))
	checkAccepted(t, "a topic anew of a route that is full", nine, itemOf(routeA, 9, "new"), slices.Concat(full[:5], full[6:9], []impl.Item{itemOf(routeA, 9, "new")}))
	checkAccepted(t, "the tenth one", nine, itemOf(routeC, 1, "new"), slices.Concat(nine, []impl.Item{itemOf(routeC, 1, "new")}))
}

func TestPutFillsUpToTheLimits(t *testing.T) {
	var q []impl.Item
	for i, x := range freeItems(10) {
		q = checkPut(t, "one behind the other", q, x)
		checkOf(t, q, x.Route, i%4+1)
		if len(q) != i+1 {
			t.Fatalf("behind %d there wait %d", i+1, len(q))
		}
	}
	checkRefused(t, "an eleventh one", q, itemOf(routeC, 0, ""))
	q = nil
	for topic := 9; topic > 5; topic-- {
		q = checkPut(t, "topics of one route", q, itemOf(routeA, topic, ""))
	}
	for topic := range 10 {
		after := checkPut(t, "another topic of that route", q, itemOf(routeA, topic, "new"))
		if len(after) != 4 {
			t.Fatalf("of one route there wait %d", len(after))
		}
	}
}

func TestPutOfWhatIsNoItem(t *testing.T) {
	queues := [][]impl.Item{nil, {}, {itemOf(routeA, 3, "a")}, {itemOf(routeA, 0, "a"), itemOf(routeB, 3, "b"), itemOf(routeA, 3, "c")}, fullQueue()}
	for _, q := range queues {
		for _, topic := range []int{0, 3, 9} {
			for _, bad := range append(badItems(routeA, topic), impl.Item{}) {
				checkRefused(t, "no item", q, bad)
			}
		}
	}
	for _, right := range []impl.Item{{Route: routeA}, {Route: routeA, Topic: 9, Due: impl.MaxTime, Bytes: make([]byte, mostBytes)}} {
		checkAccepted(t, "an item at its limits", nil, right, []impl.Item{right})
	}
}

// What is wrong in a queue, and not of the route and topic of what is put, is still wrong behind it.
func TestPutIntoWhatIsNoQueue(t *testing.T) {
	a := itemOf(routeA, 3, "a")
	for _, topic := range []int{0, 4, 9} {
		for _, bad := range append(badItems(routeA, 3), impl.Item{}) {
			if bad.Topic != topic {
				checkRefused(t, "one that is none", []impl.Item{bad}, itemOf(routeA, topic, "new"))
				checkRefused(t, "one that is none, behind others", []impl.Item{a, itemOf(routeB, topic, "b"), bad}, itemOf(routeC, topic, "new"))
			}
		}
		checkRefused(t, "a topic twice", []impl.Item{a, a}, itemOf(routeA, topic, "new"))
		checkRefused(t, "a topic twice, and another route", []impl.Item{a, a}, itemOf(routeB, 3, "new"))
		checkRefused(t, "too many", freeItems(11), itemOf(routeC, topic, "new"))
		checkRefused(t, "far too many", freeItems(1000), itemOf(routeC, topic, "new"))
		checkRefused(t, "too many of one route", slices.Repeat([]impl.Item{itemOf(routeA, 0, "")}, 5), itemOf(routeB, topic, "new"))
	}
	eleven := append(fullQueue(), itemOf(routeC, 5, ""))
	for _, x := range eleven {
		checkRefused(t, "one too many, a topic anew", eleven, x)
	}
}

// The document asks what would wait behind Put: where that is QueueOk, it does not matter what the one that went was.
func TestPutInThePlaceOfWhatWasWrong(t *testing.T) {
	x, b := itemOf(routeA, 3, "new"), itemOf(routeB, 3, "b")
	for _, bad := range badItems(routeA, 3) {
		if bad.Route == x.Route && bad.Topic == x.Topic {
			checkAccepted(t, "one that was none", []impl.Item{bad, b}, x, []impl.Item{b, x})
		}
	}
	a := itemOf(routeA, 3, "a")
	checkAccepted(t, "one topic twice", []impl.Item{a, b, a}, x, []impl.Item{b, x})
	checkRefused(t, "one topic twice, and no item", []impl.Item{a, b, a}, dueAt(x, -1))
}

func TestTakeOneBehindTheOther(t *testing.T) {
	a1, a0, a9, b1, b0 := itemOf(routeA, 1, "a1"), itemOf(routeA, 0, "a0"), itemOf(routeA, 9, "a9"), itemOf(routeB, 1, "b1"), itemOf(routeB, 0, "b0")
	q := []impl.Item{b1, a9, a0, b0, a1}
	for _, step := range []struct {
		route string
		x     impl.Item
		want  []impl.Item
		ok    bool
	}{
		{routeC, impl.Item{}, q, false},
		{routeA, a9, []impl.Item{b1, a0, b0, a1}, true},
		{routeA, a0, []impl.Item{b1, b0, a1}, true},
		{routeB, b1, []impl.Item{b0, a1}, true},
		{routeA, a1, []impl.Item{b0}, true},
		{routeA, impl.Item{}, []impl.Item{b0}, false},
		{routeB, b0, nil, true},
		{routeB, impl.Item{}, nil, false},
	} {
		x, others, ok := impl.Take(q, step.route)
		if ok != step.ok || !sameItem(x, step.x) || !sameItems(others, step.want) {
			t.Fatalf("Take(%s, %s) = %s, %s, %t, want %s, %s, %t", shown(q...), step.route, shown(x), shown(others...), ok, shown(step.x), shown(step.want...), step.ok)
		}
		q = others
	}
}

func TestTakeOfWhatNobodyWaitsFor(t *testing.T) {
	for _, q := range [][]impl.Item{nil, {}, {itemOf(routeA, 1, "a")}, fullQueue(), freeItems(30)} {
		for _, route := range append(noRoutes, strings.Repeat("e", 16), routeA+"a", "00000000000000AB") {
			x, others, ok := impl.Take(q, route)
			if ok || !sameItem(x, impl.Item{}) || !sameItems(others, q) {
				t.Fatalf("Take(%s, %q) = %s, %s, %t", shown(q...), route, shown(x), shown(others...), ok)
			}
			checkOf(t, q, route, 0)
		}
	}
}

// What is no queue is taken from as well: the chapter asks for none there.
func TestTakeDueAndOfWhatIsNoQueue(t *testing.T) {
	bad := append(badItems(routeA, 3), impl.Item{}, impl.Item{Bytes: []byte("x")})
	for _, q := range [][]impl.Item{bad, append(freeItems(500), bad...), slices.Repeat(bad, 3), slices.Repeat(fullQueue(), 40)} {
		for _, route := range append(noRoutes, routeA, routeB, routeC) {
			checkTake(t, q, route)
			many := 0
			for _, x := range q {
				if x.Route == route {
					many++
				}
			}
			checkOf(t, q, route, many)
		}
		for _, now := range slices.Concat(dueEdges, noDues, []int{10}) {
			checkDue(t, q, now)
		}
	}
}

func TestDueAtTheEdges(t *testing.T) {
	for _, due := range dueEdges {
		q := []impl.Item{dueAt(itemOf(routeA, 1, "a"), due)}
		for _, c := range []struct{ now, want int }{{due - 1, 1}, {due, 1}, {due + 1, 0}, {math.MinInt, 1}, {math.MaxInt, 0}, {-1, 1}, {impl.MaxTime + 1, 0}} {
			if got := impl.Due(q, c.now); len(got) != c.want {
				t.Errorf("of due %d at %d there are %d, want %d", due, c.now, len(got), c.want)
			}
			checkDue(t, q, c.now)
		}
	}
	if got := impl.Due(nil, 0); len(got) != 0 {
		t.Errorf("of nothing there is %s", shown(got...))
	}
}

func TestDueLeavesTheOthersInTheirOrder(t *testing.T) {
	q := fullQueue()
	for i, due := range []int{5, 3, 9, 0, 7, 3, 5, 8, 3, 4} {
		q[i].Due = due
	}
	for _, c := range []struct {
		now    int
		places []int
	}{
		{0, []int{0, 1, 2, 3, 4, 5, 6, 7, 8, 9}}, {1, []int{0, 1, 2, 4, 5, 6, 7, 8, 9}}, {3, []int{0, 1, 2, 4, 5, 6, 7, 8, 9}},
		{4, []int{0, 2, 4, 6, 7, 9}}, {5, []int{0, 2, 4, 6, 7}}, {6, []int{2, 4, 7}}, {8, []int{2, 7}}, {9, []int{2}}, {10, nil},
	} {
		var want []impl.Item
		for _, place := range c.places {
			want = append(want, q[place])
		}
		if got := impl.Due(q, c.now); !sameItems(got, want) {
			t.Errorf("Due(%s, %d) = %s, want %s", shown(q...), c.now, shown(got...), shown(want...))
		}
	}
}

// anyItem is often right, and often of few routes and topics.
func anyItem(from *rand.Rand, note string) impl.Item {
	x := dueAt(itemOf([]string{routeA, routeB, routeC}[from.Intn(3)], from.Intn(5), note), from.Intn(6))
	if from.Intn(30) == 0 {
		bad := badItems(x.Route, x.Topic)
		x = bad[from.Intn(len(bad))]
	}
	return x
}

func TestQueuesThatMayBeNoneAgainstAList(t *testing.T) {
	from := rand.New(rand.NewSource(1313))
	for range 3000 {
		var q []impl.Item
		for i := range from.Intn(13) {
			q = append(q, anyItem(from, fmt.Sprint(i)))
		}
		checkQueueOk(t, "any queue", q, queueFits(q))
		checkPut(t, "into any queue", q, anyItem(from, "new"))
		checkTake(t, q, routeA)
		checkDue(t, q, from.Intn(8)-1)
	}
}

func TestQueuesThatGoOnAgainstAList(t *testing.T) {
	from := rand.New(rand.NewSource(131313))
	for range 100 {
		var q []impl.Item
		for i := range 100 {
			route := []string{routeA, routeB, routeC}[from.Intn(3)]
			switch from.Intn(8) {
			case 0:
				checkTake(t, q, route)
				_, q, _ = impl.Take(q, route)
			case 1:
				now := from.Intn(4)
				checkDue(t, q, now)
				q = impl.Due(q, now)
			default:
				q = checkPut(t, "going on", q, anyItem(from, fmt.Sprint(i)))
			}
			checkQueueOk(t, "going on", q, true)
		}
	}
}

// An answer hangs on no order but that of the queue.
func TestQueuesAnswerOneThingEachTime(t *testing.T) {
	q := freeItems(10)
	slices.Reverse(q)
	many := freeItems(300)
	x := itemOf(q[0].Route, 1, "new")
	for range 300 {
		checkPut(t, "each time", q[1:], x)
		checkPut(t, "each time", q, x)
		checkTake(t, q, q[5].Route)
		checkDue(t, q, 9)
		checkDue(t, many, 9)
	}
}

// writeOver turns all that an answer has, and the room behind it.
func writeOver(list []impl.Item) {
	for i := range list {
		whole := list[i].Bytes[:cap(list[i].Bytes)]
		for j := range whole {
			whole[j] ^= 255
		}
	}
	list = list[:cap(list)]
	for i := range list {
		list[i] = impl.Item{Route: "turned", Topic: -7, Due: -7, Bytes: []byte("turned")}
	}
}

// queueAsks are what answers with items, each as lists that are to share nothing.
func queueAsks(q []impl.Item, x impl.Item) map[string]func() [][]impl.Item {
	put := func(q []impl.Item, x impl.Item) [][]impl.Item {
		after, _ := impl.Put(q, x)
		return [][]impl.Item{after}
	}
	take := func(route string) [][]impl.Item {
		first, others, _ := impl.Take(q, route)
		return [][]impl.Item{{first}, others}
	}
	return map[string]func() [][]impl.Item{
		"Put":                 func() [][]impl.Item { return put(q[:3], x) },
		"Put of a topic anew": func() [][]impl.Item { return put(q, q[0]) },
		"Put that is refused": func() [][]impl.Item { return put(q, dueAt(x, -1)) },
		"Put into nothing":    func() [][]impl.Item { return put(nil, x) },
		"Take":                func() [][]impl.Item { return take(routeB) },
		"Take of none":        func() [][]impl.Item { return take("none") },
		"Due of all":          func() [][]impl.Item { return [][]impl.Item{impl.Due(q, 0)} },
		"Due of none":         func() [][]impl.Item { return [][]impl.Item{impl.Due(q, 100)} },
	}
}

func TestQueuesAnswerAnewEachTime(t *testing.T) {
	q, x := fullQueue(), itemOf(routeC, 1, "new")
	for name, ask := range queueAsks(q, x) {
		kept := ask()
		for i := range kept {
			kept[i] = clonedItems(kept[i])
		}
		for _, list := range ask() {
			writeOver(list)
		}
		if !sameItems(q, fullQueue()) || !sameItem(x, itemOf(routeC, 1, "new")) {
			t.Fatalf("%s shares memory with an argument: %s, %s", name, shown(q...), shown(x))
		}
		for i, again := range ask() {
			if !sameItems(again, kept[i]) {
				t.Errorf("%s, asked again, = %s, want %s", name, shown(again...), shown(kept[i]...))
			}
		}
	}
}

// Also where the items that were given share their bytes, those that are answered share none.
func TestTheItemsOfAnAnswerShareNothing(t *testing.T) {
	q := fullQueue()
	shared := someBytes(20)
	for i := range q {
		q[i].Bytes = shared[:10]
	}
	x := itemOf(routeC, 1, "")
	x.Bytes = shared[:10]
	for name, ask := range queueAsks(q, x) {
		all := slices.Concat(ask()...)
		for i := range all {
			for j := range all[:i] {
				checkApart(t, name, all[i].Bytes, all[j].Bytes)
			}
		}
	}
	if !bytes.Equal(shared, someBytes(20)) {
		t.Errorf("bytes that are shared turned into %x", shared)
	}
}

// What is given may be written over behind a call: what was answered stays as it was.
func TestAQueueThatChangesBehindACall(t *testing.T) {
	for name := range queueAsks(nil, impl.Item{}) {
		q, x := fullQueue(), itemOf(routeC, 1, "new")
		answer := queueAsks(q, x)[name]()
		kept := make([][]impl.Item, len(answer))
		for i := range answer {
			kept[i] = clonedItems(answer[i])
		}
		writeOver(q)
		writeOver([]impl.Item{x})
		for i := range answer {
			if !sameItems(answer[i], kept[i]) {
				t.Errorf("%s turned into %s, want %s", name, shown(answer[i]...), shown(kept[i]...))
			}
		}
	}
}

func TestQueuesLeaveTheirArgumentsAlone(t *testing.T) {
	// Behind the queue there is room, in which others stand; behind the bytes of each item likewise.
	backing, room := append(fullQueue(), fullQueue()...), someBytes(400)
	for i := range backing {
		backing[i].Bytes = room[20*i : 20*i+10]
	}
	kept := clonedItems(backing)
	for many := range 12 {
		q := backing[:many]
		impl.QueueOk(q)
		for _, x := range append(badItems(routeA, 1), backing...) {
			impl.ItemOk(x)
			impl.Put(q, x)
			impl.Take(q, x.Route)
			impl.Due(q, x.Due)
			impl.Of(q, x.Route)
		}
		impl.Due(q, 10)
	}
	if !sameItems(backing, kept) || !bytes.Equal(room, someBytes(400)) {
		t.Errorf("what was given turned into %s, want %s", shown(backing...), shown(kept...))
	}
}

func TestQueuesOfManyAtATime(t *testing.T) {
	q, x := fullQueue(), itemOf(routeA, 9, "new")
	after, _ := putBy(q, x)
	_, others := takeBy(q, routeB)
	var all sync.WaitGroup
	for range 16 {
		all.Go(func() {
			for range 50 {
				if got, ok := impl.Put(q, x); !ok || !sameItems(got, after) {
					t.Errorf("Put = %s, %t", shown(got...), ok)
				}
				if first, got, ok := impl.Take(q, routeB); !ok || !sameItem(first, q[1]) || !sameItems(got, others) {
					t.Errorf("Take = %s, %s, %t", shown(first), shown(got...), ok)
				}
				if got := impl.Due(q, 9); !sameItems(got, q) || impl.Of(q, routeC) != 2 || !impl.QueueOk(q) {
					t.Errorf("Due = %s", shown(got...))
				}
			}
		})
	}
	all.Wait()
}

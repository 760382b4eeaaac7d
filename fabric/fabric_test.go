package fabric_test

import (
	"math"
	"math/rand"
	"slices"
	"strconv"
	"strings"
	"testing"

	"lockkeeper/api"
	"lockkeeper/fabric"
)

func wants(t *testing.T, name string, got, want api.Errno) {
	t.Helper()
	if got != want {
		t.Errorf("%s: %v, not %v", name, got, want)
	}
}

// sends puts messages on a way, each of which there is room for.
func sends(t *testing.T, w *fabric.Fabric, from, to int, letters ...string) {
	t.Helper()
	for _, s := range letters {
		wants(t, "Send of "+strconv.Quote(s), w.Send(from, to, s), api.OK)
	}
}

// holds checks that a queue has just these messages, in order, by taking them, and puts them back.
func holds(t *testing.T, w *fabric.Fabric, from, to int, want ...string) {
	t.Helper()
	if n := w.Count(from, to); n != len(want) {
		t.Errorf("Count(%d, %d): %d, not %d", from, to, n, len(want))
	}
	got := taken(t, w, from, to)
	if !slices.Equal(got, want) {
		t.Errorf("from %d to %d: %q, not %q", from, to, got, want)
	}
	sends(t, w, from, to, got...)
}

// taken takes all messages of a queue from its front.
func taken(t *testing.T, w *fabric.Fabric, from, to int) []string {
	t.Helper()
	var got []string
	for range w.Count(from, to) {
		s, e := w.Take(from, to, 0)
		wants(t, "Take", e, api.OK)
		got = append(got, s)
	}
	return got
}

// refuses checks that a queue has no message at an index.
func refuses(t *testing.T, w *fabric.Fabric, from, to, at int) {
	t.Helper()
	if s, e := w.Take(from, to, at); s != "" || e != api.ErrNone {
		t.Errorf("Take(%d, %d, %d): %q, %v", from, to, at, s, e)
	}
	if e := w.Double(from, to, at); e != api.ErrNone {
		t.Errorf("Double(%d, %d, %d): %v", from, to, at, e)
	}
}

func waysAre(t *testing.T, w *fabric.Fabric, want ...[2]int) {
	t.Helper()
	if got := w.Ways(); !slices.Equal(got, want) {
		t.Errorf("Ways: %v, not %v", got, want)
	}
}

// names returns so many messages, all unequal.
func names(n int) []string {
	var l []string
	for i := range n {
		l = append(l, "m"+strconv.Itoa(i))
	}
	return l
}

// nodes are unequal numbers of nodes, the least and the greatest among them.
var nodes = []int{0, 1, -1, 2, 64, 1 << 30, -(1 << 30), math.MaxInt, math.MinInt}

// wrongIndices are no indices of a queue with so many messages.
func wrongIndices(n int) []int {
	return []int{n, n + 1, n + 64, 1000, math.MaxInt32, math.MaxInt, -1, -2, -n - 1, math.MinInt32, math.MinInt}
}

// full returns a fabric with a full queue from 0 to 1.
func full(t *testing.T) *fabric.Fabric {
	t.Helper()
	w := fabric.New()
	sends(t, w, 0, 1, names(64)...)
	return w
}

// plain is a fabric as the chapter's Terms define it: a queue for each pair of nodes.
type plain map[[2]int][]string

func (p plain) send(way [2]int, s string) api.Errno {
	switch {
	case len(s) > 262144:
		return api.ErrLong
	case len(p[way]) == 64:
		return api.ErrFull
	}
	p[way] = append(p[way], s)
	return api.OK
}

func (p plain) take(way [2]int, at int) (string, api.Errno) {
	if at < 0 || at >= len(p[way]) {
		return "", api.ErrNone
	}
	s := p[way][at]
	p[way] = slices.Concat(p[way][:at], p[way][at+1:])
	return s, api.OK
}

func (p plain) double(way [2]int, at int) api.Errno {
	if at < 0 || at >= len(p[way]) {
		return api.ErrNone
	}
	return p.send(way, p[way][at])
}

func (p plain) clear(node int) {
	for way := range p {
		if way[0] == node || way[1] == node {
			p[way] = nil
		}
	}
}

func (p plain) ways() [][2]int {
	var l [][2]int
	for way, queue := range p {
		if len(queue) > 0 {
			l = append(l, way)
		}
	}
	slices.SortFunc(l, func(a, b [2]int) int {
		if a[0] < b[0] || a[0] == b[0] && a[1] < b[1] {
			return -1
		}
		return 1
	})
	return l
}

// same checks all that can be asked of a fabric without changing it.
func (p plain) same(t *testing.T, name string, w *fabric.Fabric, among []int) {
	t.Helper()
	for _, from := range among {
		for _, to := range among {
			if got, want := w.Count(from, to), len(p[[2]int{from, to}]); got != want {
				t.Fatalf("%s: Count(%d, %d): %d, not %d", name, from, to, got, want)
			}
		}
	}
	if got := w.Ways(); !slices.Equal(got, p.ways()) {
		t.Fatalf("%s: Ways: %v, not %v", name, got, p.ways())
	}
}

// P20.1

func TestNew(t *testing.T) {
	w := fabric.New()
	waysAre(t, w)
	for _, from := range nodes {
		for _, to := range nodes {
			if n := w.Count(from, to); n != 0 {
				t.Errorf("Count(%d, %d): %d", from, to, n)
			}
			refuses(t, w, from, to, 0)
		}
	}
}

func TestFabricsAreApart(t *testing.T) {
	a, b := fabric.New(), fabric.New()
	sends(t, a, 0, 1, "a")
	waysAre(t, b)
	sends(t, b, 0, 1, "b", "c")
	holds(t, a, 0, 1, "a")
	a.Clear(0)
	holds(t, b, 0, 1, "b", "c")
}

func TestSendAppends(t *testing.T) {
	w := fabric.New()
	for i, s := range names(64) {
		wants(t, s, w.Send(0, 1, s), api.OK)
		if n := w.Count(0, 1); n != i+1 {
			t.Errorf("%d after %d", n, i+1)
		}
	}
	holds(t, w, 0, 1, names(64)...)
	waysAre(t, w, [2]int{0, 1})
}

func TestEachPairHasAQueue(t *testing.T) {
	w := fabric.New()
	for _, from := range nodes {
		for _, to := range nodes {
			sends(t, w, from, to, "to "+strconv.Itoa(to), "from "+strconv.Itoa(from))
		}
	}
	for _, from := range nodes {
		for _, to := range nodes {
			holds(t, w, from, to, "to "+strconv.Itoa(to), "from "+strconv.Itoa(from))
		}
	}
}

func TestMessagesOfAnyBytes(t *testing.T) {
	var all [256]byte
	for i := range all {
		all[i] = byte(i)
	}
	l := []string{"", "\x00", "\xff\xfe", "a", "a", "", "ü€", "\xc3", string(all[:]), "b\x00"}
	w := fabric.New()
	sends(t, w, 5, 5, l...)
	holds(t, w, 5, 5, l...)
}

func TestLongMessages(t *testing.T) {
	long := strings.Repeat("0123456789abcdef", 20000)
	w := fabric.New()
	l := []string{long[:262143], long[:262144], long[1:262145]}
	sends(t, w, 0, 1, l...)
	for _, n := range []int{262145, 262146, 263000, 320000} {
		wants(t, strconv.Itoa(n), w.Send(0, 1, long[:n]), api.ErrLong)
		wants(t, strconv.Itoa(n), w.Send(2, 3, long[:n]), api.ErrLong)
	}
	waysAre(t, w, [2]int{0, 1})
	holds(t, w, 0, 1, l...)
	f := full(t)
	wants(t, "long, to a full queue", f.Send(0, 1, long[:262145]), api.ErrLong)
	wants(t, "not too long, to a full queue", f.Send(0, 1, long[:262144]), api.ErrFull)
}

func TestAFullQueue(t *testing.T) {
	w := full(t)
	for _, s := range []string{"", "x", "m0"} {
		wants(t, "Send", w.Send(0, 1, s), api.ErrFull)
	}
	for _, at := range []int{0, 1, 31, 62, 63} {
		wants(t, "Double", w.Double(0, 1, at), api.ErrFull)
	}
	holds(t, w, 0, 1, names(64)...)
	for _, way := range [][2]int{{1, 0}, {0, 0}, {1, 1}, {0, 2}, {2, 1}} {
		sends(t, w, way[0], way[1], names(64)...)
		wants(t, "Send", w.Send(way[0], way[1], "x"), api.ErrFull)
	}
	for at := range 64 {
		s, e := w.Take(0, 1, at)
		wants(t, "Take", e, api.OK)
		sends(t, w, 0, 1, s)
		wants(t, "Send", w.Send(0, 1, "x"), api.ErrFull)
		wants(t, "Double", w.Double(0, 1, 0), api.ErrFull)
	}
	w.Clear(0)
	sends(t, w, 0, 1, names(64)...)
	wants(t, "Send", w.Send(0, 1, "x"), api.ErrFull)
}

// P20.2

func TestTakeAtEachIndex(t *testing.T) {
	for n := range 9 {
		for at := range n {
			w := fabric.New()
			l := names(n)
			for _, s := range l {
				sends(t, w, 1, 0, "other "+s)
				sends(t, w, 0, 1, s)
			}
			if s, e := w.Take(0, 1, at); s != l[at] || e != api.OK {
				t.Errorf("Take at %d of %d: %q, %v", at, n, s, e)
			}
			holds(t, w, 0, 1, slices.Delete(l, at, at+1)...)
			if w.Count(1, 0) != n {
				t.Error(w.Count(1, 0))
			}
		}
	}
}

func TestDoubleAtEachIndex(t *testing.T) {
	for n := range 9 {
		for at := range n {
			w := fabric.New()
			l := names(n)
			for _, s := range l {
				sends(t, w, 0, 1, s)
				sends(t, w, 1, 1, "other "+s)
			}
			wants(t, "Double", w.Double(0, 1, at), api.OK)
			holds(t, w, 0, 1, append(l, l[at])...)
			if w.Count(1, 1) != n {
				t.Error(w.Count(1, 1))
			}
		}
	}
}

func TestDoubleUpToAFullQueue(t *testing.T) {
	w := fabric.New()
	sends(t, w, 0, 1, "a")
	for range 63 {
		wants(t, "Double", w.Double(0, 1, 0), api.OK)
	}
	wants(t, "Double", w.Double(0, 1, 0), api.ErrFull)
	holds(t, w, 0, 1, slices.Repeat([]string{"a"}, 64)...)
	if _, e := w.Take(0, 1, 63); e != api.OK {
		t.Error(e)
	}
	wants(t, "Double", w.Double(0, 1, 62), api.OK)
	wants(t, "Double", w.Double(0, 1, 62), api.ErrFull)
}

func TestACopyIsAMessageOfItsOwn(t *testing.T) {
	for _, at := range []int{0, 2} {
		w := fabric.New()
		sends(t, w, 0, 1, "a", "b")
		wants(t, "Double", w.Double(0, 1, 0), api.OK)
		if s, e := w.Take(0, 1, at); s != "a" || e != api.OK {
			t.Errorf("%q, %v", s, e)
		}
		wants(t, "Double", w.Double(0, 1, 1), api.OK)
		if at == 0 {
			holds(t, w, 0, 1, "b", "a", "a")
		} else {
			holds(t, w, 0, 1, "a", "b", "b")
		}
	}
}

func TestNoSuchIndex(t *testing.T) {
	for _, n := range []int{0, 1, 2, 63, 64} {
		w := fabric.New()
		sends(t, w, 0, 1, names(n)...)
		sends(t, w, 1, 0, names(64)...)
		sends(t, w, 0, 2, names(64)...)
		for _, at := range wrongIndices(n) {
			refuses(t, w, 0, 1, at)
		}
		refuses(t, w, 2, 0, 0)
		refuses(t, w, 1, 1, 0)
		holds(t, w, 0, 1, names(n)...)
		holds(t, w, 1, 0, names(64)...)
		holds(t, w, 0, 2, names(64)...)
	}
}

// P20.3

func TestClear(t *testing.T) {
	for _, gone := range append(nodes, 3, -3, 1000) {
		w := fabric.New()
		var left [][2]int
		for _, from := range nodes {
			for _, to := range nodes {
				sends(t, w, from, to, "a", "b", "c")
				if from != gone && to != gone {
					left = append(left, [2]int{from, to})
				}
			}
		}
		w.Clear(gone)
		if n := len(w.Ways()); n != len(left) {
			t.Errorf("%d: %d ways left, not %d", gone, n, len(left))
		}
		for _, way := range left {
			holds(t, w, way[0], way[1], "a", "b", "c")
		}
		for _, other := range nodes {
			refuses(t, w, gone, other, 0)
			refuses(t, w, other, gone, 0)
		}
		w.Clear(gone)
		for _, way := range left {
			holds(t, w, way[0], way[1], "a", "b", "c")
		}
	}
}

func TestANodeThatWasClearedGoesOn(t *testing.T) {
	w := fabric.New()
	sends(t, w, 0, 1, "a", "b")
	sends(t, w, 2, 3, "c")
	w.Clear(1)
	waysAre(t, w, [2]int{2, 3})
	sends(t, w, 1, 0, "d")
	sends(t, w, 0, 1, "e")
	holds(t, w, 0, 1, "e")
	holds(t, w, 1, 0, "d")
	holds(t, w, 2, 3, "c")
}

func TestWaysAreInOrder(t *testing.T) {
	inOrder := slices.Sorted(slices.Values(nodes))
	var want [][2]int
	for _, from := range inOrder {
		for _, to := range inOrder {
			want = append(want, [2]int{from, to})
		}
	}
	random := rand.New(rand.NewSource(20))
	for range 20 {
		w := fabric.New()
		for _, at := range random.Perm(2 * len(want)) {
			way := want[at/2]
			sends(t, w, way[0], way[1], "x")
		}
		waysAre(t, w, want...)
	}
}

func TestWaysOfEmptiedQueues(t *testing.T) {
	w := fabric.New()
	sends(t, w, 1, 2, "a", "b")
	sends(t, w, 0, 3, "")
	waysAre(t, w, [2]int{0, 3}, [2]int{1, 2})
	taken(t, w, 0, 3)
	waysAre(t, w, [2]int{1, 2})
	if _, e := w.Take(1, 2, 1); e != api.OK {
		t.Error(e)
	}
	waysAre(t, w, [2]int{1, 2})
	taken(t, w, 1, 2)
	waysAre(t, w)
}

func TestWaysAreApart(t *testing.T) {
	w := fabric.New()
	want := [][2]int{{0, 1}, {0, 2}, {1, 0}}
	for _, way := range want {
		sends(t, w, way[0], way[1], "a", "b")
	}
	first, second := w.Ways(), w.Ways()
	first = first[:cap(first)]
	for i := range first {
		first[i] = [2]int{7, 7}
	}
	if !slices.Equal(second, want) {
		t.Error(second)
	}
	waysAre(t, w, want...)
	refuses(t, w, 7, 7, 0)
}

// P20.4

// player makes the same calls on a fabric and on a plain one.
type player struct {
	random *rand.Rand
	w      *fabric.Fabric
	p      plain
	among  []int
	sent   int
}

func (y *player) way() [2]int {
	n := len(y.among)
	return [2]int{y.among[y.random.Intn(n)], y.among[y.random.Intn(n)]}
}

// index is most often one of the queue.
func (y *player) index(way [2]int) int {
	if y.random.Intn(8) == 0 {
		wrong := wrongIndices(len(y.p[way]))
		return wrong[y.random.Intn(len(wrong))]
	}
	return y.random.Intn(len(y.p[way]) + 1)
}

// step makes one call; so many of a hundred are a Send or a Double.
func (y *player) step(t *testing.T, adds int) {
	t.Helper()
	way := y.way()
	at := y.index(way)
	switch n := y.random.Intn(100); {
	case n < adds/2:
		y.sent++
		s := strconv.Itoa(y.sent)
		wants(t, "Send", y.w.Send(way[0], way[1], s), y.p.send(way, s))
	case n < adds:
		wants(t, "Double", y.w.Double(way[0], way[1], at), y.p.double(way, at))
	case n < 99:
		got, e := y.w.Take(way[0], way[1], at)
		want, f := y.p.take(way, at)
		if got != want || e != f {
			t.Fatalf("Take(%v, %d): %q, %v, not %q, %v", way, at, got, e, want, f)
		}
	case y.random.Intn(10) == 0:
		y.w.Clear(way[0])
		y.p.clear(way[0])
	}
}

func TestCallsInAnyOrder(t *testing.T) {
	for seed := range 60 {
		random := rand.New(rand.NewSource(int64(seed)))
		y := &player{random: random, w: fabric.New(), p: plain{}, among: nodes[:1+seed%len(nodes)]}
		for n := range 400 {
			adds := 80
			if n/100%2 == 1 {
				adds = 40
			}
			y.step(t, adds)
			y.p.same(t, "seed "+strconv.Itoa(seed)+", call "+strconv.Itoa(n), y.w, y.among)
		}
		for _, way := range y.p.ways() {
			holds(t, y.w, way[0], way[1], y.p[way]...)
		}
	}
}

func TestCopiesInTransit(t *testing.T) {
	random := rand.New(rand.NewSource(204))
	w := fabric.New()
	copies := map[string]int{}
	for i := range 2000 {
		switch random.Intn(3) {
		case 0:
			s := strconv.Itoa(i % 10)
			if w.Send(0, 1, s) == api.OK {
				copies[s]++
			}
		case 1:
			if n := w.Count(0, 1); n > 0 && n < 64 {
				wants(t, "Double", w.Double(0, 1, random.Intn(n)), api.OK)
				s, e := w.Take(0, 1, n)
				wants(t, "Take", e, api.OK)
				sends(t, w, 0, 1, s)
				copies[s]++
			}
		case 2:
			if n := w.Count(0, 1); n > 0 {
				s, e := w.Take(0, 1, random.Intn(n))
				wants(t, "Take", e, api.OK)
				copies[s]--
			}
		}
		sum := 0
		for _, n := range copies {
			sum += n
		}
		if n := w.Count(0, 1); n != sum {
			t.Fatalf("%d in transit, not %d", n, sum)
		}
	}
	for _, s := range taken(t, w, 0, 1) {
		copies[s]--
	}
	for s, n := range copies {
		if n != 0 {
			t.Errorf("%d of %s are gone or too many", n, s)
		}
	}
}

func TestAskingChangesNothing(t *testing.T) {
	w := full(t)
	sends(t, w, 1, 0, "a", "b")
	for range 100 {
		w.Count(0, 1)
		w.Count(1, 0)
		w.Count(4, 4)
		w.Ways()
	}
	waysAre(t, w, [2]int{0, 1}, [2]int{1, 0})
	holds(t, w, 0, 1, names(64)...)
	holds(t, w, 1, 0, "a", "b")
}

// P20.5

// mixed returns a fabric with 64 messages from 0 to 1, between which there are those of other queues.
func mixed(t *testing.T) *fabric.Fabric {
	t.Helper()
	w := fabric.New()
	for i, s := range names(64) {
		sends(t, w, i%3+1, 0, "other")
		sends(t, w, 0, 1, s)
		sends(t, w, 0, i%2+2, "other")
	}
	return w
}

func TestTakenFromTheFront(t *testing.T) {
	w := mixed(t)
	for i, want := range names(64) {
		if s, e := w.Take(0, 1, 0); s != want || e != api.OK || w.Count(0, 1) != 63-i {
			t.Errorf("%q, %v, %d left", s, e, w.Count(0, 1))
		}
	}
	refuses(t, w, 0, 1, 0)
}

func TestTakenFromTheEnd(t *testing.T) {
	w := mixed(t)
	l := names(64)
	for i := 63; i >= 0; i-- {
		if s, e := w.Take(0, 1, i); s != l[i] || e != api.OK || w.Count(0, 1) != i {
			t.Errorf("%q, %v, %d left", s, e, w.Count(0, 1))
		}
	}
	refuses(t, w, 0, 1, 0)
}

func TestSentWhileTaken(t *testing.T) {
	w := fabric.New()
	l := names(500)
	sends(t, w, 0, 1, l[:5]...)
	for i, s := range l[5:] {
		sends(t, w, 0, 1, s)
		if got, e := w.Take(0, 1, 0); got != l[i] || e != api.OK {
			t.Errorf("%q, %v, not %q", got, e, l[i])
		}
	}
	holds(t, w, 0, 1, l[495:]...)
}

// R1, and no fabric

func TestNoFabric(t *testing.T) {
	long := strings.Repeat("a", 262145)
	for name, w := range map[string]*fabric.Fabric{"nil": nil, "zero": {}} {
		for _, n := range nodes {
			wants(t, name+": Send", w.Send(n, 1, "a"), api.ErrNil)
			wants(t, name+": Send", w.Send(1, n, long), api.ErrNil)
			wants(t, name+": Double", w.Double(0, 1, n), api.ErrNil)
			if s, e := w.Take(0, 1, n); s != "" || e != api.ErrNil {
				t.Errorf("%s: Take: %q, %v", name, s, e)
			}
			w.Clear(n)
			if c := w.Count(n, 1) + w.Count(1, n); c != 0 {
				t.Errorf("%s: Count: %d", name, c)
			}
		}
		if l := w.Ways(); len(l) != 0 {
			t.Errorf("%s: Ways: %v", name, l)
		}
	}
}

// Examples

func TestExamples(t *testing.T) {
	w := fabric.New()
	wants(t, "Send", w.Send(0, 1, "a"), api.OK)
	wants(t, "Send", w.Send(0, 1, "b"), api.OK)
	wants(t, "Double", w.Double(0, 1, 0), api.OK)
	for _, c := range []struct {
		want string
		e    api.Errno
	}{{"b", api.OK}, {"a", api.OK}, {"", api.ErrNone}} {
		if s, e := w.Take(0, 1, 1); s != c.want || e != c.e {
			t.Errorf("%q, %v, not %q, %v", s, e, c.want, c.e)
		}
	}
	waysAre(t, w, [2]int{0, 1})
	w.Clear(1)
	waysAre(t, w)
}

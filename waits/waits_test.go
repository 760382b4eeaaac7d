package waits_test

import (
	"math"
	"math/rand"
	"slices"
	"strconv"
	"testing"

	"lockkeeper/api"
	"lockkeeper/locks"
	"lockkeeper/waits"
)

func TestExamples(t *testing.T) {
	l := edges("1 2, 2 3, 3 1, 2 1")
	for tx, want := range map[uint64]string{1: "1 2", 3: "3 1 2", 4: ""} {
		if got := waits.Ring(l, tx); !slices.Equal(got, numbers(want)) {
			t.Errorf("Ring of %v: %v", tx, got)
		}
	}
	if got := waits.Ring(edges("5 5"), 5); !slices.Equal(got, numbers("5")) {
		t.Error(got)
	}
	if got := waits.Edges(table("1 X a b, 2 X b c", "1 X b c, 2 X a b")); !slices.Equal(got, edges("1 2, 2 1")) {
		t.Error(got)
	}
}

// P23.1: an edge to each blocker, ordered by From, then by To.

func TestEdgesByName(t *testing.T) {
	for _, c := range []struct{ what, held, waits, want string }{
		{"an empty table", "", "", ""},
		{"nobody waits", "1 X a c, 2 S c d", "", ""},
		{"who holds the range", "1 X a c", "2 S b d", "2 1"},
		{"who waits before", "1 S a c", "2 X a c, 3 S a c", "2 1, 3 2"},
		{"not who waits behind", "1 S a c", "3 X a c, 2 S a c", "2 3, 3 1"},
		{"ordered by To, not as they are held", "9 S a c, 4 S b c, 7 S . -", "5 X b c", "5 4, 5 7, 5 9"},
		{"ordered by From, not as they wait", "1 X a b", "9 X a b, 3 X a b, 5 X a b", "3 1, 3 9, 5 1, 5 3, 5 9, 9 1"},
		{"as numbers, not as digits", "10 S a b, 9 S a b", "100 X a b, 99 X a b", "99 9, 99 10, 99 100, 100 9, 100 10"},
		{"each once", "1 X a b, 1 X b c, 1 S a c", "2 X a c", "2 1"},
		{"once, as it holds and waits", "1 S a c, 2 S a c", "1 X b c, 2 X b c", "1 2, 2 1"},
		{"not to itself", "1 S a c, 2 S a c", "1 X a c", "1 2"},
		{"great numbers", "18446744073709551615 X a b", "18446744073709551614 S a b", "18446744073709551614 18446744073709551615"},
		{"a table that is not valid: a number 0", "0 X a b", "2 X a b", ""},
		{"a table that is not valid: two locks that are held", "1 X a b, 2 X a b", "3 X a b", ""},
		{"a table that is not valid: a lock that could be granted", "1 X a b", "2 X a b, 3 X b c", ""},
		{"a table that is not valid: one that waits twice", "1 X a b", "2 X a b, 2 X a b", ""},
		{"a table that is not valid: a wrong range", "1 X a b", "2 X a b, 3 X b a", ""},
	} {
		if got := waits.Edges(table(c.held, c.waits)); !slices.Equal(got, edges(c.want)) {
			t.Errorf("%s: %v", c.what, got)
		}
	}
}

// queue is a valid table: n transactions that all wait for what others hold in shared mode.
func queue(held, n int) api.Locks {
	var l api.Locks
	for i := range held {
		l.Held = append(l.Held, lock(strconv.Itoa(i+1)+" S y z"))
	}
	for i := range n {
		l.Waits = append(l.Waits, lock(strconv.Itoa(1000000-i)+" X y z"))
	}
	return l
}

func TestEdgesOfFullTable(t *testing.T) {
	for _, c := range []struct{ held, waits, want int }{
		{1, 199, 19900},
		{100, 100, 14950},
		{199, 1, 199},
		{200, 0, 0},
		{101, 100, 0},
		{1, 200, 0},
		{1, 500000, 0},
	} {
		l := queue(c.held, c.waits)
		got := waits.Edges(l)
		if len(got) != c.want {
			t.Errorf("%d held, %d waiting: %d edges", c.held, c.waits, len(got))
		}
		if c.want > 0 && !slices.Equal(got, plainEdges(l)) {
			t.Errorf("%d held, %d waiting: wrong edges", c.held, c.waits)
		}
	}
}

// P23.2: the cycle that is before all others.

func TestRingByName(t *testing.T) {
	for _, c := range []struct {
		what, edges string
		tx          uint64
		want        string
	}{
		{"no edges", "", 1, ""},
		{"no edge from it", "2 1, 2 2", 1, ""},
		{"no edge to it", "1 2, 2 2", 1, ""},
		{"only one way", "1 2, 2 3, 3 4", 1, ""},
		{"a cycle of others", "1 2, 2 3, 3 2", 1, ""},
		{"a cycle that leads to it", "2 3, 3 2, 2 1", 1, ""},
		{"alone", "1 1", 1, "1"},
		{"alone is shorter", "1 2, 2 1, 1 1", 1, "1"},
		{"another one alone", "1 2, 2 2, 2 1", 1, "1 2"},
		{"shorter is before smaller", "1 2, 2 3, 3 1, 1 9, 9 1", 1, "1 9"},
		{"the smaller one at once", "1 9, 9 1, 1 5, 5 1", 1, "1 5"},
		{"the smaller one at the second place", "1 5, 5 9, 9 1, 1 4, 4 8, 8 1", 1, "1 4 8"},
		{"the smaller one at the last place", "1 4, 4 9, 9 1, 4 8, 8 1", 1, "1 4 8"},
		{"the second place counts more than the last", "1 3, 3 9, 9 1, 1 4, 4 2, 2 1", 1, "1 3 9"},
		{"its own number is not the smallest", "9 5, 5 9, 9 4, 4 9", 9, "9 4"},
		{"the smallest place leads nowhere", "1 2, 2 3, 1 4, 4 1", 1, "1 4"},
		{"the smaller place is longer", "1 2, 2 3, 3 4, 4 1, 1 5, 5 6, 6 1", 1, "1 5 6"},
		{"as numbers, not as digits", "1 10, 10 1, 1 9, 9 1", 1, "1 9"},
		{"repetitions", "2 1, 1 2, 2 1, 1 2, 1 2", 2, "2 1"},
		{"the number 0", "0 7, 7 0", 0, "0 7"},
		{"over the number 0", "7 0, 0 7, 7 1, 1 7", 7, "7 0"},
		{"0 alone", "0 0", 0, "0"},
		{"0 and no edges", "", 0, ""},
		{"great numbers", "18446744073709551615 0, 0 18446744073709551615", math.MaxUint64, "18446744073709551615 0"},
		{"great numbers are not less", "1 18446744073709551615, 18446744073709551615 1, 1 2, 2 1", 1, "1 2"},
	} {
		l := edges(c.edges)
		if got := waits.Ring(l, c.tx); !slices.Equal(got, numbers(c.want)) {
			t.Errorf("%s: %v", c.what, got)
		}
		slices.Reverse(l)
		if got := waits.Ring(l, c.tx); !slices.Equal(got, numbers(c.want)) {
			t.Errorf("%s, the edges in the other order: %v", c.what, got)
		}
	}
}

func TestRingOfManyEdges(t *testing.T) {
	circle := func(n uint64) []api.Edge {
		var l []api.Edge
		for i := range n {
			l = append(l, api.Edge{From: i, To: (i + 1) % n})
		}
		return l
	}
	if got := waits.Ring(circle(5000), 17); len(got) != 5000 || got[0] != 17 || got[4999] != 16 {
		t.Error("a cycle over 5000 edges", len(got))
	}
	if got := waits.Ring(circle(5001), 17); len(got) != 0 {
		t.Error("a cycle over 5001 edges", len(got))
	}
	for n, want := range map[int]string{4999: "3", 5000: "3", 5001: "", 5002: "", 100000: ""} {
		if got := waits.Ring(slices.Repeat(edges("3 3"), n), 3); !slices.Equal(got, numbers(want)) {
			t.Error("repetitions", n, got)
		}
	}
}

func randomEdges(r *rand.Rand, most, txs int) []api.Edge {
	l := make([]api.Edge, r.Intn(most))
	for i := range l {
		l[i] = api.Edge{From: uint64(r.Intn(txs)), To: uint64(r.Intn(txs))}
		if i > 0 && r.Intn(6) == 0 {
			l[i] = l[r.Intn(i)]
		}
	}
	return l
}

func TestRingAtRandom(t *testing.T) {
	r := rand.New(rand.NewSource(1))
	lengths := map[int]int{}
	for range 20000 {
		txs := 1 + r.Intn(7)
		l, tx := randomEdges(r, 4*txs, txs), uint64(r.Intn(txs+1))
		want := plainRing(l, tx)
		if got := waits.Ring(l, tx); !slices.Equal(got, want) {
			t.Fatal(l, tx, got, want)
		}
		lengths[len(want)]++
	}
	for n := range 6 {
		if lengths[n] < 10 {
			t.Error("too few cycles of the length", n)
		}
	}
}

func TestRingOfManyTransactions(t *testing.T) {
	r := rand.New(rand.NewSource(2))
	long := 0
	for range 1000 {
		txs := 10 + r.Intn(100)
		l, tx := randomEdges(r, 3*txs, txs), uint64(r.Intn(txs))
		want := greedyRing(l, tx)
		if got := waits.Ring(l, tx); !slices.Equal(got, want) {
			t.Fatal(l, tx, got, want)
		}
		if len(want) > 5 {
			long++
		}
	}
	if long < 50 {
		t.Error("too few long cycles", long)
	}
}

func TestRingInAnyOrder(t *testing.T) {
	r := rand.New(rand.NewSource(3))
	for range 500 {
		txs := 2 + r.Intn(20)
		l, tx := randomEdges(r, 4*txs, txs), uint64(r.Intn(txs))
		want := waits.Ring(l, tx)
		for range 5 {
			r.Shuffle(len(l), func(i, j int) { l[i], l[j] = l[j], l[i] })
			again := slices.Concat(l, l[:r.Intn(len(l)+1)])
			if got := waits.Ring(again, tx); !slices.Equal(got, want) {
				t.Fatal(again, tx, got, want)
			}
		}
	}
}

// P23.3: a cycle in the table's edges.

func TestCaughtByName(t *testing.T) {
	for _, c := range []struct{ what, held, waits, caught string }{
		{"an empty table", "", "", ""},
		{"one waits for another one", "1 X a b", "2 X a b", ""},
		{"two hold what the other one asks for", "1 X a b, 2 X b c", "1 X b c, 2 X a b", "1 2"},
		{"two ask for X on what both share", "1 S a b, 2 S a b", "1 X a b, 2 X a b", "1 2"},
		{"by one that waits before", "1 S a b, 2 X b c", "3 X a c, 2 S a b", "2 3"},
		{"three in a circle", "1 X a b, 2 X b c, 3 X c d", "1 X b c, 2 X c d, 3 X a b", "1 2 3"},
		{"who waits for a circle is not in it", "1 X a b, 2 X b c", "1 X b c, 2 X a b, 3 X a b", "1 2"},
		{"who blocks a circle is not in it", "1 X a b, 2 X b c, 3 X c d", "1 X b d, 2 X a b", "1 2"},
		{"a table that is not valid", "1 X a b, 2 X b c, 3 X a b", "1 X b c, 2 X a b", ""},
		{"a number 0", "0 X a b, 2 X b c", "0 X b c, 2 X a b", ""},
	} {
		l := table(c.held, c.waits)
		for tx := range uint64(6) {
			if got := waits.Caught(l, tx); got != slices.Contains(numbers(c.caught), tx) {
				t.Errorf("%s: %d: %v", c.what, tx, got)
			}
		}
	}
}

// beside adds locks to a table.
func beside(l, more api.Locks) api.Locks {
	return api.Locks{Held: slices.Concat(l.Held, more.Held), Waits: slices.Concat(l.Waits, more.Waits)}
}

func TestCaughtAmongManyEdges(t *testing.T) {
	deadlock := table("301 X a b, 302 X b c", "301 X b c, 302 X a b")
	// A table with as many edges as are looked at, and one with one more.
	exact := beside(queue(18, 84), deadlock)
	over := beside(exact, table("401 X c d", "402 X c d"))
	for _, c := range []struct {
		l     api.Locks
		edges int
		want  bool
	}{
		{deadlock, 2, true},
		{exact, 5000, true},
		{over, 5001, false},
		{beside(queue(2, 194), deadlock), 19111, false},
	} {
		if got := waits.Edges(c.l); len(got) != c.edges {
			t.Error(c.edges, "edges:", len(got))
		}
		if waits.Caught(c.l, 301) != c.want || waits.Caught(c.l, 302) != c.want || waits.Caught(c.l, 1000000) {
			t.Error("a deadlock among", c.edges, "edges")
		}
	}
}

// client makes calls at random on one table, which is valid at all times.
type client struct {
	r     *rand.Rand
	table api.Locks
	txs   int
}

func (c *client) tx() uint64 { return 1 + uint64(c.r.Intn(c.txs)) }

// ask asks for a lock, and reports whether the transaction waits for it.
func (c *client) ask() (uint64, bool) {
	from := c.r.Intn(6)
	r := api.Range{From: "abcdef"[from : from+1], To: "bcdefgh"[from : from+1], End: true}
	switch c.r.Intn(8) {
	case 0:
		r.To, r.End = "", false
	case 1:
		r.To = "g"
	}
	k := api.Lock{Tx: c.tx(), R: r, X: c.r.Intn(2) == 0}
	l, granted, e := locks.Ask(c.table, k)
	if e == api.OK {
		c.table = l
	}
	return k.Tx, e == api.OK && !granted
}

// leave releases a transaction, or takes what it waits for from it.
func (c *client) leave(tx uint64, whole bool) {
	call := locks.Withdraw
	if whole {
		call = locks.Release
	}
	l, _, e := call(c.table, tx)
	if e != api.OK {
		panic(e)
	}
	c.table = l
}

func TestCaughtAtRandom(t *testing.T) {
	r := rand.New(rand.NewSource(4))
	count := map[bool]int{}
	for range 300 {
		c := client{r: r, txs: 2 + r.Intn(6)}
		for range 60 {
			c.ask()
			if r.Intn(20) == 0 {
				c.leave(c.tx(), r.Intn(2) == 0)
			}
			l := plainEdges(c.table)
			if got := waits.Edges(c.table); !slices.Equal(got, l) {
				t.Fatal(c.table, got, l)
			}
			for tx := range uint64(c.txs + 2) {
				want := len(greedyRing(l, tx)) > 0
				if got := waits.Caught(c.table, tx); got != want {
					t.Fatal(c.table, tx, got, want)
				}
				count[want]++
			}
		}
	}
	if count[true] < 1000 || count[false] < 1000 {
		t.Error("too few", count)
	}
}

func TestEdgesOfBrokenTables(t *testing.T) {
	r := rand.New(rand.NewSource(5))
	none := 0
	for range 2000 {
		c := client{r: r, txs: 6}
		for range 15 {
			c.ask()
		}
		all := slices.Concat(c.table.Held, c.table.Waits)
		one := &all[r.Intn(len(all))]
		switch r.Intn(4) {
		case 0:
			one.Tx = uint64(r.Intn(8))
		case 1:
			one.X = !one.X
		case 2:
			one.R = all[r.Intn(len(all))].R
		case 3:
			one.R.End = !one.R.End
		}
		held := min(max(len(c.table.Held)+r.Intn(3)-1, 0), len(all))
		l := api.Locks{Held: all[:held], Waits: all[held:]}
		got, want := waits.Edges(l), plainEdges(l)
		if !slices.Equal(got, want) {
			t.Fatal(l, got, want)
		}
		for tx := range uint64(8) {
			if waits.Caught(l, tx) != (len(greedyRing(want, tx)) > 0) {
				t.Fatal(l, tx)
			}
		}
		if len(l.Waits) > 0 && len(want) == 0 {
			none++
		}
	}
	if none < 100 || none > 1900 {
		t.Error("too few tables of one kind: not valid are", none)
	}
}

// P23.4: if each one that is caught by its Ask is released at once, nobody ever has a cycle.

func TestNobodyStaysCaught(t *testing.T) {
	r := rand.New(rand.NewSource(6))
	caught := 0
	for range 400 {
		c := client{r: r, txs: 2 + r.Intn(6)}
		for range 60 {
			tx, waiting := c.ask()
			if waiting && waits.Caught(c.table, tx) {
				c.leave(tx, true)
				caught++
			}
			if r.Intn(6) == 0 {
				c.leave(c.tx(), r.Intn(2) == 0)
			}
			l := plainEdges(c.table)
			for tx := range uint64(c.txs + 2) {
				if len(greedyRing(l, tx)) > 0 || waits.Caught(c.table, tx) || len(waits.Ring(l, tx)) > 0 {
					t.Fatal("a cycle of", tx, c.table)
				}
			}
		}
	}
	if caught < 1000 {
		t.Error("too few were caught", caught)
	}
}

func TestCaughtOneAfterTheOther(t *testing.T) {
	// 1 and 2 share a range, and both ask for it alone: the second one is caught, and when it is released, the first one goes on.
	l := table("1 S a b, 2 S a b, 3 X b c", "")
	for _, c := range []struct {
		ask    string
		caught bool
	}{{"1 X a b", false}, {"3 X a c", false}, {"2 X a b", true}} {
		next, granted, e := locks.Ask(l, lock(c.ask))
		if granted || e != api.OK || waits.Caught(next, lock(c.ask).Tx) != c.caught {
			t.Fatal(c, granted, e)
		}
		l = next
	}
	l, granted, _ := locks.Release(l, 2)
	if !slices.Equal(granted, numbers("1")) || waits.Caught(l, 1) || waits.Caught(l, 2) || waits.Caught(l, 3) {
		t.Error(granted, l)
	}
}

// R1, R5: no argument makes a call panic, none is changed, and answers are new memory.

func TestNothingGiven(t *testing.T) {
	for tx := range uint64(3) {
		if len(waits.Edges(api.Locks{})) != 0 || len(waits.Ring(nil, tx)) != 0 || len(waits.Ring([]api.Edge{}, tx)) != 0 || waits.Caught(api.Locks{}, tx) {
			t.Error(tx)
		}
	}
}

// roomy returns the list with room behind it, and all of that.
func roomy[E any](l []E, fill E) ([]E, []E) {
	all := slices.Concat(l, []E{fill, fill, fill})
	return all[:len(l)], all
}

func TestArgumentsAreUnchanged(t *testing.T) {
	l, all := roomy(edges("3 1, 1 9, 1 2, 2 3, 9 1, 1 2, 1 1"), api.Edge{From: 77, To: 78})
	old := slices.Clone(all)
	first, other := waits.Ring(l, 2), waits.Ring(l, 2)
	_ = append(first, 99)
	first[0] = 99
	if !slices.Equal(all, old) || !slices.Equal(other, numbers("2 3 1")) {
		t.Error("Ring", all, other)
	}
	held, allHeld := roomy(locksOf("9 S a c, 2 X d e, 2 S a b"), lock("7 X a -"))
	waiting, allWaits := roomy(locksOf("2 X b c, 1 S . -, 9 X a e"), lock("8 X a -"))
	oldHeld, oldWaits := slices.Clone(allHeld), slices.Clone(allWaits)
	table := api.Locks{Held: held, Waits: waiting}
	want := edges("1 2, 2 9, 9 1, 9 2")
	got, again := waits.Edges(table), waits.Edges(table)
	_ = append(got, api.Edge{From: 99})
	got[0].From = 99
	if !waits.Caught(table, 2) || !slices.Equal(again, want) || !slices.Equal(waits.Edges(table), want) {
		t.Error("Edges", again)
	}
	if !slices.Equal(allHeld, oldHeld) || !slices.Equal(allWaits, oldWaits) {
		t.Error("the table", allHeld, allWaits)
	}
}

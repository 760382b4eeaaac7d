package waits_test

import (
	"cmp"
	"slices"
	"strconv"
	"strings"

	"lockkeeper/api"
	"lockkeeper/locks"
)

// lock reads a lock: a transaction, S or X, and two bounds, of which . is the empty one, and - no end.
func lock(text string) api.Lock {
	part := strings.Fields(text)
	tx, err := strconv.ParseUint(part[0], 10, 64)
	if err != nil || len(part) != 4 || part[1] != "S" && part[1] != "X" {
		panic("no lock: " + text)
	}
	r := api.Range{From: strings.Trim(part[2], "."), To: strings.Trim(part[3], "-"), End: part[3] != "-"}
	return api.Lock{Tx: tx, R: r, X: part[1] == "X"}
}

// locksOf reads locks between commas.
func locksOf(text string) []api.Lock {
	var l []api.Lock
	for one := range strings.SplitSeq(text, ",") {
		if strings.TrimSpace(one) != "" {
			l = append(l, lock(one))
		}
	}
	return l
}

func table(held, waits string) api.Locks {
	return api.Locks{Held: locksOf(held), Waits: locksOf(waits)}
}

// edges reads edges between commas: two transactions each.
func edges(text string) []api.Edge {
	var l []api.Edge
	for one := range strings.SplitSeq(text, ",") {
		if txs := numbers(one); len(txs) == 2 {
			l = append(l, api.Edge{From: txs[0], To: txs[1]})
		} else if len(txs) != 0 {
			panic("no edge: " + one)
		}
	}
	return l
}

func numbers(text string) []uint64 {
	var l []uint64
	for word := range strings.FieldsSeq(text) {
		n, err := strconv.ParseUint(word, 10, 64)
		if err != nil {
			panic("no number: " + word)
		}
		l = append(l, n)
	}
	return l
}

// What follows is the chapter's Terms, word by word.

func has(r api.Range, key string) bool { return r.From <= key && (!r.End || key < r.To) }

func conflict(a, b api.Lock) bool {
	meet := slices.ContainsFunc([]string{a.R.From, b.R.From}, func(key string) bool { return has(a.R, key) && has(b.R, key) })
	return a.Tx != b.Tx && meet && (a.X || b.X)
}

// plainEdges holds each waiting lock against all those that are held or wait before it.
func plainEdges(l api.Locks) []api.Edge {
	if locks.Check(l) != api.OK {
		return nil
	}
	var list []api.Edge
	for i, k := range l.Waits {
		for _, other := range slices.Concat(l.Held, l.Waits[:i]) {
			if conflict(other, k) {
				list = append(list, api.Edge{From: k.Tx, To: other.Tx})
			}
		}
	}
	slices.SortFunc(list, func(a, b api.Edge) int {
		return cmp.Or(cmp.Compare(a.From, b.From), cmp.Compare(a.To, b.To))
	})
	return slices.Compact(list)
}

// before reports whether one sequence is before another one.
func before(a, b []uint64) bool {
	if len(a) != len(b) {
		return len(a) < len(b)
	}
	for i := range a {
		if a[i] != b[i] {
			return a[i] < b[i]
		}
	}
	return false
}

// cycles returns all cycles that begin with the transactions of way: takes long if there are more than some seven of them.
func cycles(l []api.Edge, way ...uint64) [][]uint64 {
	var all [][]uint64
	for i, e := range l {
		switch {
		case e.From != way[len(way)-1] || slices.Contains(l[:i], e):
		case e.To == way[0]:
			all = append(all, slices.Clone(way))
		case !slices.Contains(way, e.To):
			all = append(all, cycles(l, append(slices.Clone(way), e.To)...)...)
		}
	}
	return all
}

// plainRing tries all cycles.
func plainRing(l []api.Edge, tx uint64) []uint64 {
	var first []uint64
	for _, cycle := range cycles(l, tx) {
		if first == nil || before(cycle, first) {
			first = cycle
		}
	}
	return first
}

// greedyRing finds out first how many edges lead from each transaction to tx at least, and then takes the smallest that is one nearer, again and again.
func greedyRing(l []api.Edge, tx uint64) []uint64 {
	far := map[uint64]int{tx: 0}
	for more := true; more; {
		more = false
		for _, e := range l {
			n, ok := far[e.To]
			if old, is := far[e.From]; ok && (!is || n+1 < old) {
				far[e.From], more = n+1, true
			}
		}
	}
	nearest := func(from uint64, besides int) (uint64, int) {
		best, least := uint64(0), -1
		for _, e := range l {
			if n, ok := far[e.To]; ok && e.From == from && n != besides && (least < 0 || n < least || n == least && e.To < best) {
				best, least = e.To, n
			}
		}
		return best, least
	}
	ring := []uint64{tx}
	for {
		next, n := nearest(ring[len(ring)-1], -1)
		switch {
		case n < 0:
			return nil
		case n == 0:
			return ring
		}
		ring = append(ring, next)
	}
}

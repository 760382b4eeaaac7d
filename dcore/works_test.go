package dcore_test

import (
	"fmt"
	"math/rand"
	"slices"
	"strings"
	"testing"

	"lockkeeper/api"
	"lockkeeper/master"
	"lockkeeper/route"
	"lockkeeper/tape"
	"lockkeeper/vault"
)

// chain makes the pages of a level, next to each other: the first one has all keys ahead of the first bound, and so on.
func chain(level uint8, ids []uint64, bounds ...string) []api.Page {
	var l []api.Page
	for i, id := range ids {
		p := api.Page{Id: id, Level: level}
		if i > 0 {
			p.Low = bounds[i-1]
		}
		if i < len(bounds) {
			p.Right, p.High, p.End = ids[i+1], bounds[i], true
		}
		l = append(l, p)
	}
	return l
}

// over gives the pages of a level the cells for the pages below that begin in their ranges, but for some.
func over(l, below []api.Page, but ...uint64) []api.Page {
	for i := range l {
		for _, p := range below {
			if inRange(l[i], p.Low) && !slices.Contains(but, p.Id) {
				l[i].Cells = append(l[i].Cells, api.Cell{Key: p.Low, Value: kid(p.Id)})
			}
		}
	}
	return l
}

func list(n ...uint64) []uint64 { return n }

// WkPost takes the open page with the lowest Id, and finds its parent, also if that one is not posted itself.
func TestPostInOrder(t *testing.T) {
	leaves := chain(0, list(10, 5, 6, 4, 7), "c", "e", "g", "i")
	inner := over(chain(1, list(9, 8), "g"), leaves, 5, 7)
	root := over(chain(2, list(1)), inner, 8)
	d := newDisks(small, 20, 90000).forest(t, slices.Concat(leaves, inner, root)...)
	// What is posted is put without a number, and needs none to be stable.
	c := booted(t, d, small)
	for _, want := range []map[uint64]string{
		{1: "2 dsn 0 set 0 []: ", 9: "1 dsn 1 set 0 []:  c e to g 8", 8: "1 dsn 0 set 0 []: g"},
		{1: "2 dsn 0 set 0 []: ", 9: "1 dsn 1 set 0 []:  c e to g 8", 8: "1 dsn 2 set 0 []: g i"},
		{1: "2 dsn 3 set 0 []:  g", 9: "1 dsn 1 set 0 []:  c e to g 8", 8: "1 dsn 2 set 0 []: g i"},
	} {
		c.works(api.WkPost)
		for id, s := range want {
			wants(t, fmt.Sprint("page ", id), c.page(id), s)
		}
	}
	c.work(api.WkPost, false, api.OK)
	wants(t, "the oldest", c.Oldest(), uint64(0))
	c.works(api.WkForce, api.WkForce)
	wants(t, "stable", c.Stable(), uint64(3))
}

// A parent that is too full then is split, as a leaf is, but without numbers; the root grows.
func TestPostSplits(t *testing.T) {
	leaves := chain(0, list(2, 3, 4, 5), "b", "c", "d")
	root := over(chain(1, list(1)), leaves, 5)
	c := booted(t, newDisks(small, 20, 90000).forest(t, append(leaves, root...)...), small)
	c.works(api.WkPost)
	c.pages(map[uint64]string{
		1: "2 dsn 1 set 0 []:  d", 6: "1 dsn 1 set 0 []:  b c to d 7", 7: "1 dsn 1 set 0 []: d",
		2: "0 dsn 0 set 0 []: to b 3", 3: "0 dsn 0 set 0 []: to c 4", 4: "0 dsn 0 set 0 []: to d 5", 5: "0 dsn 0 set 0 []:",
	})
	c.work(api.WkPost, false, api.OK)

	// Three cells of this length are just as much as is allowed.
	inner := over(chain(1, list(8, 9), "d"), leaves, 3)
	inner[0].Cells = row("", kid(2), "c", kid(4), "cc", kid(6))
	leaves = chain(0, list(2, 3, 4, 6, 5), "b", "c", "cc", "d")
	root = over(chain(2, list(1)), inner)
	c = booted(t, newDisks(small, 20, 90000).forest(t, slices.Concat(leaves, inner, root)...), small)
	c.do(api.OK, put(5, "a", "x"))
	c.works(api.WkPost)
	wants(t, "page 8", c.page(8), "1 dsn 1 set 0 []:  b c to cc 7")
	wants(t, "page 7", c.page(7), "1 dsn 1 set 0 []: cc to d 9")
	wants(t, "page 1", c.page(1), "2 dsn 0 set 0 []:  d")
	wants(t, "the oldest", c.Oldest(), uint64(5))
	// The upper part is open then.
	c.works(api.WkPost)
	wants(t, "page 1", c.page(1), "2 dsn 2 set 0 []:  cc d")
	c.work(api.WkPost, false, api.OK)
}

// tall is a tree of all levels, with four pages each, of which the root has no room for the last one.
func tall() []api.Page {
	var l []api.Page
	var below []api.Page
	for level := range uint8(10) {
		first := uint64(level)*4 + 2
		next := over(chain(level, list(first, first+1, first+2, first+3), "b", "c", "d"), below)
		if level == 0 {
			next[3].Cells = nil
		}
		l, below = append(l, next...), next
	}
	return append(l, over(chain(10, list(1)), below, 41)...)
}

// The root of the highest level does not grow: ErrState, but if there is no room, ErrFull, as that is named first.
func TestPostErrors(t *testing.T) {
	refuses := func(c core, want api.Errno) {
		t.Helper()
		f := c.Forest()
		for range 2 {
			c.work(api.WkPost, false, want)
		}
		if !route.Same(f, c.Forest()) {
			t.Error(c.Forest())
		}
	}
	// The upper one of two numbers is missing, or both, or none.
	for places, want := range map[int]api.Errno{41: api.ErrFull, 42: api.ErrFull, 43: api.ErrState} {
		c := booted(t, newDisks(small, places, 90000).forest(t, tall()...), small)
		refuses(c, want)
		wants(t, "unposted", fmt.Sprint(route.Unposted(c.Forest(), 1)), "[41]")
	}
	// A fifth leaf, so that five frames must be written.
	l := tall()
	l[3].Right, l[3].High, l[3].End = 44, "e", true
	c := booted(t, newDisks(small, 60, 90000).forest(t, append(l, api.Page{Id: 44, Low: "e"})...), small)
	dirty(c, 4)
	refuses(c, api.ErrState)
	dirty(c, 5)
	refuses(c, api.ErrFull)
}

// dirty does an operation on the first ones of the keys a, b and so on.
func dirty(c core, keys int) {
	c.Helper()
	for i := range keys {
		c.do(api.OK, put(uint64(i+1), string(rune('a'+i)), ""))
	}
}

// Five of eight frames that must be written are too many for any change.
func TestWorksWithoutRoomInThePool(t *testing.T) {
	leaves := chain(0, list(2, 3, 4, 5, 6, 7), "b", "c", "d", "e", "f")
	for kind, but := range map[uint8]uint64{api.WkPost: 4, api.WkMerge: 9} {
		l := append(slices.Clone(leaves), over(chain(1, list(1)), leaves, but)...)
		c := booted(t, newDisks(small, 60, 90000).forest(t, l...), small)
		dirty(c, 5)
		f := c.Forest()
		c.work(kind, false, api.ErrFull)
		if !route.Same(f, c.Forest()) {
			t.Error(c.Forest())
		}
		c.Note(1, 0)
		c.works(api.WkFlush)
		c.work(kind, false, api.ErrFull)
		c.works(api.WkSync, kind)
	}
}

// A work whose change has no room in the log does nothing.
func TestWorksWithoutRoomInTheLog(t *testing.T) {
	leaves := chain(0, list(2, 3, 4), "b", "c")
	for kind, but := range map[uint8]uint64{api.WkPost: 3, api.WkMerge: 9} {
		l := append(slices.Clone(leaves), over(chain(1, list(1)), leaves, but)...)
		need := 0
		for _, room := range []int{20, 99999} {
			c := booted(t, newDisks(small, 20, room).forest(t, l...), small)
			f := c.Forest()
			if room == 20 {
				c.work(kind, false, api.ErrFull)
				c.work(kind, false, api.ErrFull)
				if !route.Same(f, c.Forest()) {
					t.Error(c.Forest())
				}
				continue
			}
			c.works(kind, api.WkForce)
			need = int(c.d.log.End())
		}
		for room, want := range map[int]api.Errno{need: api.OK, need - 1: api.ErrFull} {
			c := booted(t, newDisks(small, 20, room).forest(t, l...), small)
			c.work(kind, want == api.OK, want)
		}
	}
	// The page that is out stays out until there is room.
	l := append(slices.Clone(leaves), over(chain(1, list(1)), leaves)...)
	c := booted(t, newDisks(small, 20, 9999).forest(t, l...), small)
	c.works(api.WkMerge, api.WkMerge, api.WkForce)
	c = booted(t, newDisks(small, 20, int(c.d.log.End())-1).forest(t, l...), small)
	c.works(api.WkMerge)
	c.work(api.WkMerge, false, api.ErrFull)
	c.work(api.WkPost, false, api.OK)
	c.works(api.WkForce, api.WkForce)
	c.work(api.WkMerge, false, api.ErrFull)
	c.works(api.WkFlush, api.WkSync, api.WkPoint, api.WkSeal, api.WkMerge)
	wants(t, "page 3", c.page(3), "none")
}

// WkMerge: which leaf is the first one that is taken.
func TestMergeTakes(t *testing.T) {
	leaves := func() []api.Page { return chain(0, list(2, 3, 4, 5), "d", "h", "m") }
	cell := func(n int) []api.Cell { return row("", strings.Repeat("v", n-4)) }
	for name, w := range map[string]struct {
		change func(l []api.Page) []api.Page
		but    []uint64
		taken  uint64
	}{
		"the first one":     {func(l []api.Page) []api.Page { return l }, nil, 3},
		"an open one":       {func(l []api.Page) []api.Page { return l }, list(3), 4},
		"two open ones":     {func(l []api.Page) []api.Page { return l }, list(3, 4), 5},
		"all but the first": {func(l []api.Page) []api.Page { return l }, list(3, 4, 5), 0},
		"half of Most":      {func(l []api.Page) []api.Page { l[0].Cells = cell(20); return l }, nil, 3},
		"more than half":    {func(l []api.Page) []api.Page { l[0].Cells = cell(21); return l }, nil, 4},
		"more in the other": {func(l []api.Page) []api.Page { l[1].Cells = row("d", strings.Repeat("v", 16)); return l }, nil, 5},
		"both together": {func(l []api.Page) []api.Page {
			l[0].Cells, l[1].Cells = cell(10), row("d", "vvvvvv")
			return l
		}, nil, 4},
		"a Low above":          {func(l []api.Page) []api.Page { l[0].Set.Low = 6; return l }, nil, 4},
		"another's Low above":  {func(l []api.Page) []api.Page { l[1].Set.Low = 6; return l }, nil, 5},
		"a Low that is as low": {func(l []api.Page) []api.Page { l[0].Set.Low, l[1].Set.Low = 5, 5; return l }, nil, 3},
	} {
		l := w.change(leaves())
		l = append(l, over(chain(1, list(1)), l, w.but...)...)
		c := booted(t, newDisks(small, 20, 90000).forest(t, l...), small)
		c.Note(0, 5)
		f := c.Forest()
		c.work(api.WkMerge, w.taken != 0, api.OK)
		want := route.Unposted(f, 1)
		if w.taken != 0 {
			want = append(want, w.taken)
			slices.Sort(want)
		}
		wants(t, name, fmt.Sprint(route.Unposted(c.Forest(), 1)), fmt.Sprint(want))
	}
	// An odd Most is halved downwards.
	o := api.CoreOptions{Frames: 8, Most: 41, Cell: 20, In: 10}
	l := leaves()[:2]
	l[1].Right, l[1].High, l[1].End = 0, "", false
	l[0].Cells = cell(21)
	l = append(l, over(chain(1, list(1)), l)...)
	c := booted(t, newDisks(o, 20, 90000).forest(t, l...), o)
	c.work(api.WkMerge, false, api.OK)
	// The first child of a parent is left where it is.
	l = leaves()
	inner := over(chain(1, list(6, 7, 8), "d", "h"), l)
	l = slices.Concat(l, inner, over(chain(2, list(1)), inner))
	c = booted(t, newDisks(small, 20, 90000).forest(t, l...), small)
	c.works(api.WkMerge)
	wants(t, "unposted", fmt.Sprint(route.Unposted(c.Forest(), 1)), "[5]")
	wants(t, "page 8", c.page(8), "1 dsn 1 set 0 []: h")
	// A leaf alone has no neighbour.
	c = fresh(t, small)
	c.work(api.WkMerge, false, api.OK)
}

// two is a core with two leaves that end and begin at m, of which the second one is out.
func two(t *testing.T, o api.CoreOptions) core {
	t.Helper()
	l := chain(0, list(2, 3), "m")
	l[0].Set, l[0].Cells = api.Lsns{Low: 1, In: []uint64{4}}, row("a", "x")
	l[1].Set, l[1].Cells = api.Lsns{In: []uint64{2, 5}}, row("z", "y")
	l = append(l, over(chain(1, list(1)), l)...)
	c := booted(t, newDisks(o, 8, 90000).forest(t, l...), o)
	c.Note(0, 1)
	c.works(api.WkMerge)
	wants(t, "page 1", c.page(1), "1 dsn 1 set 0 []: ")
	return c
}

// The page that is out is joined to its left neighbour, or is open again.
func TestMergeJoins(t *testing.T) {
	c := two(t, small)
	c.work(api.WkPost, false, api.OK)
	c.works(api.WkMerge)
	c.pages(map[uint64]string{1: "1 dsn 1 set 0 []: ", 2: "0 dsn 2 set 1 [2 4 5]: a z"})
	c.work(api.WkMerge, false, api.OK)
	c.work(api.WkPost, false, api.OK)
	wants(t, "the oldest", c.Oldest(), uint64(0))
	// Its number is free: the next page has it.
	c.do(api.OK, put(10, "c", nine), put(11, "d", nine), put(12, "e", nine))
	wants(t, "page 3", c.page(3), "0 dsn 3 set 1 [2 4 5 10 11 12]: e z")
	c.settle()
	f := c.Forest()
	c = c.again()
	c.Note(0, 1)
	if !route.Same(f, c.Forest()) {
		t.Error(c.Forest())
	}

	// Up to Most is allowed now; one byte more is not.
	for n, want := range map[int]string{28: "none", 29: "0 dsn 0 set 1 [2 5]: z"} {
		c = two(t, small)
		c.do(api.OK, put(4, "a", "other"), put(7, "a", strings.Repeat("v", min(n, 19))), put(8, "b", strings.Repeat("v", n-19-5+1)))
		wants(t, "the size", size(append(c.Forest()[1].Cells, c.Forest()[2].Cells...)), n+12)
		c.works(api.WkMerge)
		wants(t, "page 3", c.page(3), want)
		if want == "none" {
			wants(t, "the oldest", c.Oldest(), uint64(7))
			continue
		}
		wants(t, "page 1", c.page(1), "1 dsn 1 set 0 []: ")
		c.works(api.WkPost)
		wants(t, "page 1", c.page(1), "1 dsn 2 set 0 []:  m")
		c.work(api.WkPost, false, api.OK)
	}
}

// No more than In numbers may be together, and neither Low may be above the low.
func TestMergeJoinsSets(t *testing.T) {
	for _, w := range []struct {
		in   int
		low  uint64
		want string
	}{{3, 0, "2 [4 5]"}, {3, 2, "2 [4 5]"}, {2, 2, "2 [4 5]"}, {2, 1, ""}, {1, 2, ""}, {1, 4, "4 [5]"}, {1, 9, "9 []"}} {
		o := small
		o.In = w.in
		c := two(t, o)
		c.Note(0, w.low)
		c.works(api.WkMerge)
		want := "0 dsn 2 set " + w.want + ": a z"
		if w.low == 0 {
			want = "0 dsn 2 set 1 [2 4 5]: a z"
		}
		if w.want == "" {
			want = fmt.Sprintf("0 dsn 0 set %d [4]: a to m 3", w.low)
		}
		wants(t, fmt.Sprint("page 2 of ", w), c.page(2), want)
		c.work(api.WkPost, w.want == "", api.OK)
	}
	// The left neighbour may be another one by then.
	c := two(t, small)
	c.do(api.OK, put(6, "b", nine), put(7, "c", nine), put(8, "d", nine))
	wants(t, "page 4", c.page(4), "0 dsn 2 set 1 [4 6 7 8]: d to m 3")
	c.works(api.WkMerge)
	c.pages(map[uint64]string{1: "1 dsn 1 set 0 []: ", 2: "0 dsn 2 set 1 [4 6 7 8]: a b c to d 4", 4: "0 dsn 3 set 1 [2 4 5 6 7 8]: d z"})
	wants(t, "the oldest", c.Oldest(), uint64(6))
	c.works(api.WkPost)
	wants(t, "page 1", c.page(1), "1 dsn 4 set 0 []:  d")
	// So may the page that is out: its upper part is open.
	c = two(t, small)
	c.do(api.OK, put(6, "v", nine), put(7, "w", nine), put(8, "x", nine))
	wants(t, "page 4", c.page(4), "0 dsn 2 set 1 [2 5 6 7 8]: x z")
	c.works(api.WkPost)
	wants(t, "page 1", c.page(1), "1 dsn 3 set 0 []:  x")
	c.works(api.WkMerge)
	wants(t, "page 2", c.page(2), "0 dsn 4 set 1 [2 4 5 6 7 8]: a v w to x 4")
}

// With five of eight frames that must be written, the page that is out stays out.
func TestMergeJoinsWithoutRoomInThePool(t *testing.T) {
	leaves := chain(0, list(2, 3, 4, 5, 6, 7), "b", "c", "d", "e", "f")
	c := booted(t, newDisks(small, 20, 90000).forest(t, append(leaves, over(chain(1, list(1)), leaves)...)...), small)
	c.works(api.WkMerge)
	c.do(api.OK, put(1, "c", ""), put(2, "d", ""), put(3, "e", ""), put(4, "f", ""))
	f := c.Forest()
	for range 2 {
		c.work(api.WkMerge, false, api.ErrFull)
	}
	if !route.Same(f, c.Forest()) {
		t.Error(c.Forest())
	}
	c.Note(9, 0)
	c.works(api.WkFlush, api.WkSync, api.WkMerge)
	wants(t, "page 3", c.page(3), "none")
}

// The joined page has the smaller number with which one of both was put; a page that is being written is left alone.
func TestMergeJoinsFirsts(t *testing.T) {
	for _, w := range []struct{ p, u, want uint64 }{{0, 0, 0}, {6, 0, 6}, {0, 7, 7}, {6, 7, 6}, {7, 6, 6}} {
		for flushed := range 2 {
			c := two(t, small)
			if w.p > 0 {
				c.do(api.OK, put(w.p, "a", "w"))
			}
			if w.u > 0 {
				c.do(api.OK, put(w.u, "z", "w"))
			}
			c.Note(9, 0)
			c.drain(api.WkForce)
			c.works(api.WkFlush)
			if flushed == 1 {
				c.drain(api.WkFlush)
				if w.u > 0 {
					f := c.Forest()
					c.work(api.WkMerge, false, api.OK)
					if !route.Same(f, c.Forest()) {
						t.Error(c.Forest())
					}
					continue
				}
			}
			c.works(api.WkMerge)
			wants(t, fmt.Sprint("the oldest of ", w), c.Oldest(), w.want)
			// What p was put with still counts when p as it was is durable.
			c.drain(api.WkForce, api.WkSync)
			wants(t, fmt.Sprint("the oldest of ", w), c.Oldest(), w.want)
			c.drain(api.WkFlush, api.WkSync)
			wants(t, "the oldest", c.Oldest(), uint64(0))
		}
	}
	// While it is written it stays out, and an operation on it keeps it from being joined no more than another.
	c := two(t, small)
	c.do(api.OK, put(6, "z", "w"))
	c.Note(9, 0)
	c.drain(api.WkFlush)
	c.work(api.WkMerge, false, api.OK)
	c.work(api.WkPost, false, api.OK)
	c.do(api.OK, put(7, "n", "w"))
	c.work(api.WkMerge, false, api.OK)
	c.works(api.WkSync, api.WkMerge)
	wants(t, "page 2", c.page(2), "0 dsn 2 set 1 [2 4 5 6 7]: a n z")
	wants(t, "the oldest", c.Oldest(), uint64(7))
	// What may not be joined is open again even while it is being written.
	c = two(t, small)
	c.do(api.OK, put(6, "z", "w"), put(8, "a", strings.Repeat("v", 19)), put(9, "b", strings.Repeat("v", 6)))
	c.Note(9, 0)
	c.drain(api.WkFlush)
	c.works(api.WkMerge, api.WkPost)
}

// A page that is out is open once the core is opened again.
func TestMergeForgets(t *testing.T) {
	c := two(t, small)
	c.Note(9, 0)
	c.drain(api.WkForce)
	c = c.again()
	c.works(api.WkPost)
	wants(t, "page 1", c.page(1), "1 dsn 2 set 0 []:  m")
}

// grown is a core with the changes 1 (of the pages 1 to 3) and so on, none of which is stable.
func grown(t *testing.T) core {
	t.Helper()
	c := fresh(t, small)
	c.do(api.OK, put(1, "a", nine), put(2, "b", nine), put(3, "y", nine), put(4, "z", nine))
	wants(t, "page 1", c.page(1), "1 dsn 1 set 0 []:  y")
	return c
}

// from is the from that WkPoint writes, or 0 if there is nothing to do; the master is left as it was.
func (c core) pointed() uint64 {
	c.Helper()
	was := c.d.heart.Pending()
	is, e := c.Work(api.WkPoint)
	wants(c.T, "point", e, api.OK)
	wants(c.T, "pending", c.d.heart.Pending() > was, is)
	if !is {
		return 0
	}
	m, _ := master.Open(c.d.heart.Copy())
	wants(c.T, "the epoch", m.Data()[:8], marks(c.Epoch(), 0)[:8])
	c.works(api.WkSeal)
	c.work(api.WkSeal, false, api.OK)
	wants(c.T, "the string", m.Data(), marks(c.Epoch(), c.From()))
	return c.From()
}

// WkPoint: the new from is one more than Stable, or the lowest Dsn, not below from, of a page that is dirty or being written.
func TestPoint(t *testing.T) {
	c := grown(t)
	wants(t, "nothing stable", c.pointed(), uint64(0))
	c.Note(99, 0)
	c.works(api.WkForce)
	wants(t, "nothing forced", c.pointed(), uint64(0))
	c.works(api.WkForce)
	wants(t, "all dirty", c.pointed(), uint64(0))
	c.works(api.WkFlush, api.WkFlush)
	wants(t, "two being written", c.pointed(), uint64(0))
	c.works(api.WkFlush)
	wants(t, "all being written", c.pointed(), uint64(0))
	c.works(api.WkSync)
	// A page with that Dsn is dirty, though the device has that change of it.
	c.do(api.OK, put(5, "a", "x"))
	wants(t, "one dirty again", c.pointed(), uint64(0))
	c.works(api.WkFlush)
	wants(t, "one being written again", c.pointed(), uint64(0))
	c.works(api.WkSync)
	end := c.d.log.End()
	wants(t, "none", c.pointed(), uint64(2))
	wants(t, "the base", c.d.log.Base(), end)
	wants(t, "none", c.pointed(), uint64(0))
	// Below from, no Dsn matters.
	c.do(api.OK, put(6, "a", "y"))
	c.do(api.OK, put(7, "z", "12"), put(8, "za", nine), put(9, "zb", nine))
	wants(t, "page 4", c.page(4), "0 dsn 2 set 0 [1 2 3 4 7 8 9]: zb")
	wants(t, "nothing stable", c.pointed(), uint64(0))
	c.works(api.WkForce, api.WkForce)
	wants(t, "two dirty", c.pointed(), uint64(0))
	c.drain(api.WkFlush)
	c.works(api.WkSync)
	c.do(api.OK, put(10, "a", "z"))
	wants(t, "one dirty with an old Dsn", c.pointed(), uint64(3))
	wants(t, "from", opened(t, c.d.copy().crash(), small).From(), uint64(3))
	// Of two changes that the device has, the second one's page is dirty again.
	c.Note(0, 9)
	c.works(api.WkPost)
	c.do(api.OK, put(11, "b", "z"), put(12, "ba", nine), put(13, "bb", nine), put(14, "bc", nine))
	wants(t, "page 5", c.page(5), "0 dsn 4 set 9 [10 11 12 13 14]: bc to y 3")
	c.drain(api.WkForce, api.WkFlush, api.WkSync)
	c.do(api.OK, put(15, "ba", "x"))
	wants(t, "one dirty with the last Dsn", c.pointed(), uint64(4))
	wants(t, "one dirty with the last Dsn", c.pointed(), uint64(0))
	c.works(api.WkFlush, api.WkSync)
	wants(t, "none", c.pointed(), uint64(5))
}

// Of several changes, only those go that no page needs.
func TestPointBetween(t *testing.T) {
	c := grown(t)
	c.do(api.OK, put(5, "c", nine), put(7, "d", nine))
	wants(t, "page 4", c.page(4), "0 dsn 2 set 0 [1 2 3 4 5 7]: c d to y 3")
	c.do(api.OK, put(6, "x", "1"), put(20, "aa", "1"))
	c.works(api.WkPost)
	c.Note(7, 0)
	c.drain(api.WkForce)
	wants(t, "stable", c.Stable(), uint64(3))
	// Page 2 waits for the stable end.
	c.works(api.WkFlush, api.WkFlush, api.WkFlush)
	c.work(api.WkFlush, false, api.OK)
	wants(t, "some being written", c.pointed(), uint64(0))
	c.works(api.WkSync)
	wants(t, "page 2 dirty", c.pointed(), uint64(2))
	wants(t, "page 2 dirty", c.pointed(), uint64(0))
	f := c.Forest()
	r := c.again()
	c.Note(20, 0)
	if !slices.Equal(f[0].Cells, r.Forest()[0].Cells) || len(r.Forest()) != len(f) {
		t.Error(r.Forest())
	}
}

// A page that the device has counts with its Dsn while it is dirty, as does one that the device has not.
func TestPointWithTwoReasons(t *testing.T) {
	c := grown(t)
	c.Note(99, 0)
	c.do(api.OK, put(5, "c", nine), put(6, "d", nine))
	c.drain(api.WkForce, api.WkFlush, api.WkSync)
	c.do(api.OK, put(7, "yy", nine), put(8, "yz", nine))
	wants(t, "page 5", c.page(5), "0 dsn 3 set 0 [1 2 3 4 7 8]: yz z")
	c.works(api.WkForce, api.WkForce)
	c.do(api.OK, put(9, "d", "x"))
	wants(t, "page 4", c.page(4), "0 dsn 2 set 0 [1 2 3 4 5 6 9]: c d to y 3")
	wants(t, "both", c.pointed(), uint64(2))
	c.works(api.WkFlush)
	wants(t, "one is being written", c.pointed(), uint64(0))
	c.drain(api.WkFlush, api.WkSync)
	wants(t, "none", c.pointed(), uint64(4))
}

// While a string is being written, there is none to put; what the master refuses is returned.
func TestPointErrors(t *testing.T) {
	c := grown(t)
	c.Note(99, 0)
	c.drain(api.WkForce, api.WkFlush, api.WkSync)
	c.works(api.WkPoint)
	c.do(api.OK, put(5, "c", nine), put(6, "d", nine))
	c.drain(api.WkForce, api.WkFlush, api.WkSync)
	c.work(api.WkPoint, false, api.OK)
	c.works(api.WkSeal)
	wants(t, "from", c.From(), uint64(2))
	c.works(api.WkPoint, api.WkSeal)
	wants(t, "from", c.From(), uint64(3))

	d := newDisks(small, 20, 90000)
	d.heart.Write(1, "\x7f"+strings.Repeat("\xff", 7))
	d.heart.Sync()
	c = booted(t, d, small)
	c.Note(99, 0)
	c.do(api.OK, put(1, "a", nine), put(2, "b", nine), put(3, "y", nine), put(4, "z", nine))
	c.drain(api.WkForce, api.WkFlush, api.WkSync)
	for range 2 {
		c.work(api.WkPoint, false, api.ErrFull)
		c.work(api.WkSeal, false, api.OK)
	}
	wants(t, "from", c.From(), uint64(1))
}

// A record stays while recovery needs it, also if its page was changed again: that change may be lost.
func TestPointKeepsWhatRecoveryNeeds(t *testing.T) {
	for name, w := range map[string]struct {
		flushed int
		do      func(c core)
		want    uint64
	}{
		// The leaves 2 and 3 are on the device in no way, and are both split again.
		"new pages": {1, func(c core) {
			c.do(api.OK, put(5, "c", nine), put(6, "d", nine), put(7, "w", nine), put(8, "yy", nine), put(9, "yz", nine))
		}, 0},
		// The device has all of the first change.
		"none": {3, func(c core) {
			c.do(api.OK, put(5, "c", nine), put(6, "d", nine))
		}, 2},
		// Page 2 has its second change in a record that is stable.
		"a later record": {1, func(c core) {
			c.do(api.OK, put(5, "c", nine), put(6, "d", nine), put(7, "yy", nine), put(8, "yz", nine))
			c.Note(99, 0)
			c.works(api.WkForce, api.WkForce)
			c.do(api.OK, put(9, "e", nine), put(10, "f", nine))
		}, 2},
	} {
		c := grown(t)
		c.Note(4, 0)
		c.works(api.WkForce, api.WkForce)
		for range w.flushed {
			c.works(api.WkFlush)
		}
		c.works(api.WkSync)
		w.do(c)
		f := c.d.copy().crash()
		was := opened(t, f, small).Forest()
		wants(t, name, c.pointed(), w.want)
		if now := opened(t, c.d.copy().crash(), small).Forest(); !route.Same(was, now) {
			t.Errorf("%s: %v, not %v", name, now, was)
		}
		// As soon as all is stable, the words hold again.
		c.settle()
	}
	// A page that is gone was needed until that is stable: its neighbour on the device leads to it.
	leaves := chain(0, list(2, 5), "m")
	leaves[0].Cells = row("a", nine, "b", nine, "c", nine)
	l := append(leaves, over(chain(1, list(1)), leaves)...)
	c := booted(t, newDisks(small, 20, 90000).forest(t, l...), small)
	c.do(api.OK, put(1, "d", nine))
	wants(t, "page 3", c.page(3), "0 dsn 1 set 0 [1]: c d to m 5")
	c.Note(1, 0)
	c.works(api.WkForce, api.WkForce, api.WkFlush, api.WkSync, api.WkPost, api.WkForce, api.WkForce)
	wants(t, "the page between", c.pointed(), uint64(0))
	c.do(api.OK, del(2, "a"), del(3, "b"), del(4, "c"))
	c.Note(1, 4)
	c.works(api.WkMerge, api.WkMerge)
	wants(t, "page 3", c.page(3), "none")
	wants(t, "the page that is gone", c.pointed(), uint64(0))
	opened(t, c.d.copy().crash(), small)
	c.Note(4, 0)
	c.settle()
	wants(t, "from", c.From(), uint64(5))
}

// WkSeal: what was put before is what counts, not what was done since.
func TestSeal(t *testing.T) {
	c := grown(t)
	c.work(api.WkSeal, false, api.OK)
	c.Note(99, 0)
	c.drain(api.WkForce, api.WkFlush, api.WkSync)
	c.works(api.WkPoint)
	wants(t, "from", fmt.Sprint(c.From(), c.d.log.Base()), "1 0")
	c.do(api.OK, put(5, "c", nine), put(6, "d", nine))
	c.works(api.WkForce)
	end := c.d.log.Sure()
	c.works(api.WkForce, api.WkSeal)
	wants(t, "from", fmt.Sprint(c.From(), c.d.log.Base()), fmt.Sprint(2, end))
	wants(t, "pending", c.d.heart.Pending(), 0)
	// After a crash either string counts.
	c.drain(api.WkFlush, api.WkSync)
	c.works(api.WkPoint)
	wants(t, "from", opened(t, c.d.copy().crash(), small).From(), uint64(2))
	d := c.d.copy()
	d.heart.Crash([]uint64{1})
	f := opened(t, d.crash(), small)
	wants(t, "from", f.From(), uint64(3))
	if !route.Same(f.Forest(), c.Forest()) {
		t.Error(f.Forest())
	}
}

// P18.8, P18.9: what was durable, or only needs to be synced, is kept by Stop; what was not forced is not.
func TestStop(t *testing.T) {
	c := grown(t)
	c.Note(99, 0)
	c.works(api.WkForce, api.WkForce, api.WkFlush, api.WkFlush, api.WkFlush)
	f := c.Forest()
	c.do(api.OK, put(5, "c", nine), put(6, "d", nine))
	c.works(api.WkForce)
	sure := c.d.log.Sure()
	c.Stop()
	wants(t, "the devices", fmt.Sprint(c.d.pages.Pending(), c.d.heart.Pending(), c.d.log.Sure(), c.d.log.End()), fmt.Sprint(0, 0, sure, sure))
	wants(t, "do", c.Do(put(9, "a", "x")), api.ErrNil)
	c.Stop()
	d := c.d.copy()
	d.log = tape.New(90000)
	if got := opened(t, d, small).Forest(); !route.Same(f, got) {
		t.Error(got)
	}
	c = booted(t, c.d, small)
	if !route.Same(f, c.Forest()) || c.Epoch() != 2 || c.Stable() != 1 {
		t.Error(c.Forest())
	}
	// A master's string that is being written is kept.
	c.do(api.OK, put(5, "c", nine), put(6, "d", nine))
	c.Note(99, 0)
	c.drain(api.WkForce, api.WkFlush, api.WkSync)
	c.works(api.WkPoint)
	c.Stop()
	c = opened(t, c.d.crash(), small)
	wants(t, "epoch, from", fmt.Sprint(c.Epoch(), c.From()), "3 3")
	// One that is not up is stopped as well.
	c.Boot()
	c.Stop()
	wants(t, "epoch", opened(t, c.d.crash(), small).Epoch(), uint64(4))
}

// R1: of a core whose devices crashed, or were written to by somebody else, nothing is promised but that its calls end.
func TestCallsOfLostCoresEnd(t *testing.T) {
	for seed := range 20 {
		r := &player{rand.New(rand.NewSource(int64(seed))), small, 0}
		d := newDisks(small, 12, 90000)
		c := booted(t, d, small)
		calls := func() {
			for range 150 {
				switch r.Intn(9) {
				case 0, 1, 2:
					c.Do(r.op())
				case 3:
					c.Get(r.key())
				case 4:
					c.Scan(r.span(), 100)
				case 5:
					c.Note(r.lsn, uint64(r.Intn(int(r.lsn)+1)))
				case 6:
					c.Forest()
				default:
					c.Work(uint8(1 + r.Intn(7)))
				}
			}
		}
		calls()
		r.crash(d, disks{})
		calls()
		for id := uint64(1); id <= 12; id++ {
			p := api.Page{Id: id, Right: id%12 + 1, High: "a", End: true, Set: api.Lsns{Low: uint64(r.Intn(9))}}
			if r.Intn(3) == 0 {
				p.Level, p.Cells = uint8(1+r.Intn(2)), row("", kid(1+uint64(r.Intn(12))))
			}
			c.overwrite(p)
		}
		calls()
		c.Stop()
	}
	// A ring of pages, none of which has the key.
	c := spread(t, small, 12)
	for id := uint64(2); id <= 13; id++ {
		c.overwrite(api.Page{Id: id, Right: (id-1)%12 + 2, High: "a", End: true})
	}
	_, _, e := c.Get("b")
	wants(t, "get", e, api.ErrTree)
	l, _, e := c.Scan(api.Range{}, 1)
	wants(t, "scan", fmt.Sprint(len(l), e), fmt.Sprint(0, api.OK))
	c.work(api.WkMerge, false, api.OK)
	// A page that has another range, and one that is none.
	c = spread(t, small, 12)
	c.overwrite(api.Page{Id: 3, Low: "z"})
	for block := range 2 {
		c.d.pages.Write(2*4-2+block, "")
	}
	_, _, e = c.Get("b")
	wants(t, "get", e, api.ErrTree)
	_, _, e = c.Get("c")
	wants(t, "get", e, api.ErrNone)
	wants(t, "the pages", fmt.Sprint(len(c.Forest()), " ", c.page(3), " ", c.page(4)), "12 0 dsn 0 set 0 []: none")
}

// overwrite puts a page on both of its blocks, behind the core's back.
func (c core) overwrite(p api.Page) {
	v, _ := vault.Open(c.d.pages)
	for range 2 {
		v.Put(p)
		v.Sync()
	}
}

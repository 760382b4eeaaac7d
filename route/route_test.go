package route_test

import (
	"encoding/binary"
	"fmt"
	"math"
	"math/rand"
	"slices"
	"strings"
	"testing"

	"lockkeeper/api"
	"lockkeeper/page"
	"lockkeeper/route"
)

const (
	maxId    = 400
	maxLevel = 10
	maxLsn   = uint64(1) << 48
	most     = uint64(math.MaxUint64)
)

// kid is a page's number as eight bytes, whether or not a page may have it.
func kid(id uint64) string { return string(binary.BigEndian.AppendUint64(nil, id)) }

// row makes cells of keys and values by turns.
func row(words ...string) []api.Cell {
	var l []api.Cell
	for i := 0; i+1 < len(words); i += 2 {
		l = append(l, api.Cell{Key: words[i], Value: words[i+1]})
	}
	return l
}

func to(right uint64, p api.Page, high string) api.Page {
	p.Right, p.High, p.End = right, high, true
	return p
}

func leaf(id uint64, low string, cells ...api.Cell) api.Page {
	return api.Page{Id: id, Low: low, Dsn: id, Set: api.Lsns{Low: id, In: []uint64{id + 2, id + 4}}, Cells: cells}
}

func inner(id uint64, level uint8, cells ...api.Cell) api.Page {
	return api.Page{Id: id, Level: level, Low: cells[0].Key, Dsn: id, Cells: cells}
}

// tree is a forest of three levels that is valid for the root 9; 3, 6 and 8 are not posted.
func tree() []api.Page {
	return forest(
		inner(9, 2, row("", kid(4), "k", kid(7))...),
		to(7, inner(4, 1, row("", kid(2), "d", kid(5))...), "k"),
		to(6, inner(7, 1, row("k", kid(1))...), "p"),
		inner(6, 1, row("p", kid(10))...),
		to(5, leaf(2, "", row("a", "1", "c", "2")...), "d"),
		to(8, leaf(5, "d", row("d", "3")...), "g"),
		to(1, leaf(8, "g", row("g", "4", "j\xff", "5")...), "k"),
		to(10, leaf(1, "k", row("l", "6")...), "p"),
		to(3, leaf(10, "p"), "t"),
		leaf(3, "t", row("t", "7", "z", "8")...),
	)
}

// forest sorts pages by their Ids.
func forest(pages ...api.Page) []api.Page {
	slices.SortFunc(pages, func(p, q api.Page) int { return compare(p.Id, q.Id) })
	return pages
}

func compare(a, b uint64) int {
	switch {
	case a < b:
		return -1
	case a > b:
		return 1
	}
	return 0
}

// with returns the forest after a change of one page, or of none if it isn't there.
func with(f []api.Page, id uint64, turn func(p *api.Page)) []api.Page {
	f = clones(f)
	for i := range f {
		if f[i].Id == id {
			turn(&f[i])
		}
	}
	return forest(f...)
}

func clone(p api.Page) api.Page {
	p.Set.In, p.Cells = slices.Clone(p.Set.In), slices.Clone(p.Cells)
	return p
}

func clones(f []api.Page) []api.Page {
	var l []api.Page
	for _, p := range f {
		l = append(l, clone(p))
	}
	return l
}

// without returns the forest without a page.
func without(f []api.Page, id uint64) []api.Page {
	var l []api.Page
	for _, p := range f {
		if p.Id != id {
			l = append(l, clone(p))
		}
	}
	return l
}

// show is a page, of which not more is told than can be read.
func show(p api.Page) string {
	short := func(s string) string { return s[:min(len(s), 12)] }
	s := fmt.Sprintf("{%d level %d %q", p.Id, p.Level, short(p.Low))
	if p.End || p.High != "" || p.Right != 0 {
		s += fmt.Sprintf(" to %q %v right %d", short(p.High), p.End, p.Right)
	}
	for _, c := range p.Cells[:min(len(p.Cells), 8)] {
		s += fmt.Sprintf(" %q", short(c.Key))
		if p.Level > 0 && len(c.Value) == 8 {
			s += fmt.Sprintf(":%d", binary.BigEndian.Uint64([]byte(c.Value)))
		}
	}
	return s + "}"
}

func shows(f []api.Page) string {
	var l []string
	for _, p := range f[:min(len(f), 40)] {
		l = append(l, show(p))
	}
	return strings.Join(l, " ")
}

// alike reports whether two pages are equal, held against each other here.
func alike(a, b api.Page) bool {
	return slices.Equal(a.Set.In, b.Set.In) && slices.Equal(a.Cells, b.Cells) &&
		a.Id == b.Id && a.Right == b.Right && a.Level == b.Level && a.Low == b.Low && a.High == b.High && a.End == b.End && a.Dsn == b.Dsn && a.Set.Low == b.Set.Low
}

func allAlike(a, b []api.Page) bool { return slices.EqualFunc(a, b, alike) }

// plainStep is a step as the Terms define it, and as P14.1 refuses it.
func plainStep(p api.Page, key string, level uint8) (uint64, api.Way, api.Errno) {
	if page.Check(p) != api.OK {
		return 0, 0, api.ErrPage
	}
	if key < p.Low || level > p.Level {
		return 0, 0, api.ErrTree
	}
	if p.End && !(p.High > key) {
		return p.Right, api.WayRight, api.OK
	}
	if p.Level == level {
		return p.Id, api.WayHere, api.OK
	}
	var child uint64
	for _, c := range p.Cells {
		if c.Key <= key {
			child = binary.BigEndian.Uint64([]byte(c.Value))
		}
	}
	return child, api.WayDown, api.OK
}

// plainAt returns the index of a page; -1 if it is not there.
func plainAt(f []api.Page, id uint64) int {
	at := -1
	for i, p := range f {
		if p.Id == id {
			at = i
		}
	}
	return at
}

// plainFind is Find of a forest: a walk that comes to a page again would never end.
func plainFind(f []api.Page, root uint64, key string, level uint8) ([]uint64, api.Errno) {
	var reached []uint64
	for id := root; !slices.Contains(reached, id); {
		at := plainAt(f, id)
		if at < 0 {
			return nil, api.ErrTree
		}
		next, way, e := plainStep(f[at], key, level)
		if e != api.OK {
			return nil, api.ErrTree
		}
		reached = append(reached, id)
		if way == api.WayHere {
			return reached, api.OK
		}
		id = next
	}
	return nil, api.ErrTree
}

// plainValid tells by the Terms whether a forest is valid for a root.
func plainValid(f []api.Page, root uint64) bool {
	for i, p := range f {
		if page.Check(p) != api.OK || i > 0 && f[i-1].Id >= p.Id {
			return false
		}
	}
	at := plainAt(f, root)
	if at < 0 || f[at].Low != "" || f[at].End {
		return false
	}
	for _, p := range f {
		if p.Level > f[at].Level || p.Level == f[at].Level && p.Id != root {
			return false
		}
	}
	for level := range f[at].Level + 1 {
		if !plainChain(f, level) {
			return false
		}
	}
	for _, p := range f {
		if p.Level > 0 && !plainChildren(f, p) {
			return false
		}
	}
	return true
}

// plainChain goes along the Rights of a level from its first page on, and has to come to each of its pages.
func plainChain(f []api.Page, level uint8) bool {
	of, first := 0, -1
	for i, p := range f {
		if p.Level != level {
			continue
		}
		of++
		if p.Low == "" {
			first = i
		}
	}
	if first < 0 {
		return false
	}
	p := f[first]
	for n := 1; n <= of; n++ {
		if !p.End {
			return n == of
		}
		next := plainAt(f, p.Right)
		if next < 0 || f[next].Level != level || f[next].Low != p.High {
			return false
		}
		p = f[next]
	}
	return false
}

func plainChildren(f []api.Page, p api.Page) bool {
	for _, c := range p.Cells {
		at := plainAt(f, binary.BigEndian.Uint64([]byte(c.Value)))
		if at < 0 || f[at].Level+1 != p.Level || f[at].Low != c.Key {
			return false
		}
	}
	return true
}

// plainUnposted returns the pages, but the root, that no cell has as a child.
func plainUnposted(f []api.Page, root uint64) []uint64 {
	var l []uint64
	for _, p := range f {
		posted := p.Id == root
		for _, q := range f {
			for _, c := range q.Cells {
				posted = posted || q.Level > 0 && c.Value == kid(p.Id)
			}
		}
		if !posted {
			l = append(l, p.Id)
		}
	}
	return l
}

// plainCells sorts the cells of all leaves.
func plainCells(f []api.Page) []api.Cell {
	var l []api.Cell
	for _, p := range f {
		if p.Level == 0 {
			l = append(l, p.Cells...)
		}
	}
	slices.SortFunc(l, func(a, b api.Cell) int { return strings.Compare(a.Key, b.Key) })
	return l
}

// word makes a key of few different bytes.
func word(r *rand.Rand) string {
	b := make([]byte, r.Intn(5))
	for i := range b {
		b[i] = "\x00ab\xff"[r.Intn(4)]
	}
	return string(b)
}

// words returns some different ones in order, the first one being empty.
func words(r *rand.Rand, n int) []string {
	l := []string{""}
	for range n - 1 {
		l = append(l, word(r))
	}
	slices.Sort(l)
	return slices.Compact(l)
}

// grown makes a valid forest of some leaves, with any numbers, of which some pages are not posted; and its root.
func grown(r *rand.Rand, leaves, more int) ([]api.Page, uint64) {
	ids := r.Perm(maxId)
	id := func() uint64 {
		n := uint64(ids[0]) + 1
		ids = ids[1:]
		return n
	}
	var row []api.Page
	for _, low := range words(r, leaves) {
		row = append(row, api.Page{Id: id(), Low: low, Dsn: uint64(r.Intn(9)), Set: api.Lsns{Low: uint64(r.Intn(3)), In: []uint64{3, 5}}})
	}
	var f []api.Page
	for {
		chain(r, row)
		f = append(f, row...)
		if len(row) == 1 {
			more--
		}
		if len(row) == 1 && more < 0 || row[0].Level == maxLevel {
			return forest(f...), row[0].Id
		}
		row = above(r, row, id)
	}
}

// chain leads each page of a level to the next one, and gives leaves cells.
func chain(r *rand.Rand, row []api.Page) {
	for i := range row {
		p := &row[i]
		if i+1 < len(row) {
			*p = to(row[i+1].Id, *p, row[i+1].Low)
		}
		if p.Level > 0 {
			continue
		}
		for _, k := range words(r, 30) {
			if k >= p.Low && (!p.End || k < p.High) {
				p.Cells = append(p.Cells, api.Cell{Key: k, Value: word(r)})
			}
		}
	}
}

// above makes the pages of the next level, each for some of the pages below; on level 9 one for all of them.
func above(r *rand.Rand, row []api.Page, id func() uint64) []api.Page {
	var l []api.Page
	level := row[0].Level + 1
	for i, p := range row {
		if i == 0 || level < maxLevel-1 && r.Intn(3) == 0 {
			l = append(l, inner(id(), level, api.Cell{Key: p.Low, Value: kid(p.Id)}))
		} else if last := &l[len(l)-1]; r.Intn(3) > 0 {
			last.Cells = append(last.Cells, api.Cell{Key: p.Low, Value: kid(p.Id)})
		}
	}
	return l
}

// asked returns the keys that are to be asked of a forest: its bounds and keys, and what is next to them.
func asked(f []api.Page) []string {
	all := []string{"", "\x00", "a", "\xff\xff\xff\xff\xff\xff", strings.Repeat("k", 513), strings.Repeat("k", 70000)}
	near := func(k string) {
		all = append(all, k, k+"\x00")
		if k != "" {
			all = append(all, k[:len(k)-1], k[:len(k)-1]+string([]byte{k[len(k)-1] - 1, 255}))
		}
	}
	for _, p := range f {
		near(p.Low)
		near(p.High)
		for _, c := range p.Cells {
			near(c.Key)
		}
	}
	slices.Sort(all)
	return slices.Compact(all)
}

// turns are changes of a random page, of which many make the forest invalid.
func turns() []func(r *rand.Rand, p *api.Page) {
	id := func(r *rand.Rand) uint64 { return uint64(r.Intn(maxId + 2)) }
	return []func(r *rand.Rand, p *api.Page){
		func(r *rand.Rand, p *api.Page) { p.Id = id(r) },
		func(r *rand.Rand, p *api.Page) { p.Right = id(r) },
		func(r *rand.Rand, p *api.Page) { p.Right, p.High, p.End = id(r), word(r), true },
		func(r *rand.Rand, p *api.Page) { p.Right, p.High, p.End = 0, "", false },
		func(r *rand.Rand, p *api.Page) { p.Level ^= 1 },
		func(r *rand.Rand, p *api.Page) { p.Low = word(r) },
		func(r *rand.Rand, p *api.Page) { p.High = word(r) },
		func(r *rand.Rand, p *api.Page) { p.Dsn = maxLsn + uint64(r.Intn(2)) },
		func(r *rand.Rand, p *api.Page) { p.Cells = slices.Clone(p.Cells[:len(p.Cells)/2]) },
		func(r *rand.Rand, p *api.Page) {
			if len(p.Cells) > 0 {
				p.Cells = slices.Clone(p.Cells)
				p.Cells[r.Intn(len(p.Cells))].Value = kid(id(r))
			}
		},
		func(r *rand.Rand, p *api.Page) {
			if len(p.Cells) > 1 {
				p.Cells = slices.Clone(p.Cells)
				p.Cells[1].Key += "\x00"
			}
		},
		func(r *rand.Rand, p *api.Page) {},
	}
}

// turned returns a forest after some random changes, its pages having different Ids.
func turned(r *rand.Rand, f []api.Page) []api.Page {
	f = clones(f)
	for range r.Intn(3) {
		all := turns()
		all[r.Intn(len(all))](r, &f[r.Intn(len(f))])
	}
	if r.Intn(6) == 0 {
		f = without(f, f[r.Intn(len(f))].Id)
	}
	if len(f) > 0 && r.Intn(8) == 0 {
		p := clone(f[r.Intn(len(f))])
		p.Id = uint64(r.Intn(maxId)) + 1
		f = append(f, p)
	}
	return slices.CompactFunc(forest(f...), func(p, q api.Page) bool { return p.Id == q.Id })
}

// P14.1

// wrong returns pages that are not valid.
func wrong() []api.Page {
	short := inner(2, 1, row("", kid(3), "m", "x")...)
	none := inner(2, 1, row("", kid(0))...)
	far := inner(2, 1, row("", kid(maxId+1))...)
	late := inner(2, 1, row("b", kid(3))...)
	late.Low = "a"
	return []api.Page{
		{}, {Id: maxId + 1}, {Id: most}, {Id: 1, Right: 2}, {Id: 1, High: "m"}, {Id: 1, High: "m", End: true}, {Id: 1, Level: 1}, {Id: 1, Dsn: maxLsn + 1}, {Id: 1, Level: maxLevel + 1, Cells: row("", kid(2))}, {Id: 1, Cells: row("b", "", "a", "")},
		to(1, leaf(1, ""), "m"), to(2, leaf(1, "m"), "m"), to(2, leaf(1, "m"), "a"), to(maxId+1, leaf(1, ""), "m"), to(2, leaf(1, "", row("m", "")...), "m"), leaf(maxLsn, ""), leaf(1, strings.Repeat("k", 514)),
		short, none, far, late, to(2, inner(2, 1, row("", kid(3))...), "m"), to(3, inner(2, 1, row("b", kid(3), "m", kid(4))...), "m"),
	}
}

// right returns valid pages, on all places and levels.
func right() []api.Page {
	highest := inner(400, maxLevel, row("a", kid(400), "a\x00", kid(1), "\xff", kid(7))...)
	return append(tree(), api.Page{Id: 1}, api.Page{Id: 400, Low: "\x00"}, to(400, api.Page{Id: 1}, "\x00"), to(2, leaf(1, "a"), "a\x00"), highest, to(1, highest, "\xff\xff"),
		to(1, inner(2, 3, row(strings.Repeat("k", 512), kid(9), strings.Repeat("k", 513), kid(2))...), "l"))
}

func TestStep(t *testing.T) {
	ways := map[string]int{}
	for _, p := range append(right(), wrong()...) {
		for _, key := range asked([]api.Page{p, tree()[0], high()}) {
			for level := range 256 {
				id, way, e := plainStep(p, key, uint8(level))
				if gotId, gotWay, gotE := route.Step(p, key, uint8(level)); gotId != id || gotWay != way || gotE != e {
					t.Errorf("%s, %q, %d: %d, %v, %v, not %d, %v, %v", show(p), key, level, gotId, gotWay, gotE, id, way, e)
				}
				ways[fmt.Sprint(way, e)]++
			}
		}
	}
	if len(ways) != 5 {
		t.Error(ways)
	}
}

// high is an inner page that has pages on both sides.
func high() api.Page { return to(4, inner(3, 2, row("b", kid(1), "m", kid(2))...), "q") }

func TestStepEdges(t *testing.T) {
	last := inner(3, 2, row("b", kid(1), "m", kid(2))...)
	bottom := to(5, leaf(4, "b", row("c", "x")...), "q")
	broken := to(5, leaf(4, "b"), "q")
	broken.Id = 5
	for _, c := range []struct {
		p     api.Page
		key   string
		level uint8
		id    uint64
		way   api.Way
		e     api.Errno
	}{
		{high(), "b", 0, 1, api.WayDown, api.OK}, {high(), "l\xff\xff", 1, 1, api.WayDown, api.OK}, {high(), "m", 0, 2, api.WayDown, api.OK}, {high(), "p\xff", 1, 2, api.WayDown, api.OK},
		{high(), "q", 0, 4, api.WayRight, api.OK}, {high(), "q\x00", 1, 4, api.WayRight, api.OK}, {high(), "q", 2, 4, api.WayRight, api.OK}, {high(), "\xff", 2, 4, api.WayRight, api.OK},
		{high(), "b", 2, 3, api.WayHere, api.OK}, {high(), "p\xff", 2, 3, api.WayHere, api.OK},
		{high(), "a\xff", 2, 0, 0, api.ErrTree}, {high(), "", 0, 0, 0, api.ErrTree}, {high(), "c", 3, 0, 0, api.ErrTree}, {high(), "q", 3, 0, 0, api.ErrTree}, {high(), "z", 255, 0, 0, api.ErrTree}, {high(), "a", 255, 0, 0, api.ErrTree},
		{last, "\xff", 0, 2, api.WayDown, api.OK}, {last, "\xff", 2, 3, api.WayHere, api.OK}, {last, "a", 2, 0, 0, api.ErrTree},
		{bottom, "b", 0, 4, api.WayHere, api.OK}, {bottom, "c", 0, 4, api.WayHere, api.OK}, {bottom, "q", 0, 5, api.WayRight, api.OK}, {bottom, "c", 1, 0, 0, api.ErrTree}, {bottom, "q", 1, 0, 0, api.ErrTree}, {bottom, "a", 0, 0, 0, api.ErrTree},
		{broken, "c", 0, 0, 0, api.ErrPage}, {broken, "q", 0, 0, 0, api.ErrPage}, {broken, "a", 0, 0, 0, api.ErrPage}, {broken, "c", 1, 0, 0, api.ErrPage},
		{api.Page{}, "", 0, 0, 0, api.ErrPage}, {api.Page{}, "a", 1, 0, 0, api.ErrPage},
	} {
		if id, way, e := route.Step(c.p, c.key, c.level); id != c.id || way != c.way || e != c.e {
			t.Errorf("%s, %q, %d: %d, %v, %v, not %d, %v, %v", show(c.p), c.key, c.level, id, way, e, c.id, c.way, c.e)
		}
	}
}

// P14.2

// forests returns forests of any pages, whether or not they are valid.
func forests() [][]api.Page {
	all := [][]api.Page{nil, {}, {{}}, {{Id: most}}, {{}, {Id: 1}, {Id: 2}, {Id: most - 1}, {Id: most}}, tree(), tree()[2:7]}
	r := rand.New(rand.NewSource(141))
	for n := range 30 {
		f, _ := grown(r, 2*n, n%3)
		all = append(all, f, turned(r, f))
	}
	for _, p := range wrong() {
		all = append(all, []api.Page{p}, forest(append(without(tree(), p.Id), p)...))
	}
	return all
}

// near returns the Ids of a forest, those next to them, and others.
func near(f []api.Page) []uint64 {
	all := []uint64{0, 1, 2, maxId, maxId + 1, 1 << 32, most - 1, most}
	for _, p := range f {
		all = append(all, p.Id-1, p.Id, p.Id+1)
	}
	slices.Sort(all)
	return slices.Compact(all)
}

func TestAt(t *testing.T) {
	for _, f := range forests() {
		for _, id := range near(f) {
			var want api.Page
			at := plainAt(f, id)
			if at >= 0 {
				want = f[at]
			}
			if got, is := route.At(f, id); is != (at >= 0) || !alike(got, want) {
				t.Errorf("%s: %d: %s, %v", shows(f), id, show(got), is)
			}
		}
	}
}

func TestPut(t *testing.T) {
	for _, f := range forests() {
		for _, id := range near(f) {
			for _, p := range []api.Page{{Id: id}, {Id: id, Level: 200, Low: "z", High: "a", Dsn: most}, leaf(id, "new", row("newer", "x")...), high()} {
				p.Id = id
				var want []api.Page
				for _, q := range f {
					if q.Id < id {
						want = append(want, q)
					}
				}
				want = append(want, p)
				for _, q := range f {
					if q.Id > id {
						want = append(want, q)
					}
				}
				if got := route.Put(f, p); !allAlike(got, want) {
					t.Errorf("%s and %s: %s", shows(f), show(p), shows(got))
				}
			}
		}
	}
}

func TestDrop(t *testing.T) {
	for _, f := range forests() {
		for _, id := range near(f) {
			if got := route.Drop(f, id); !allAlike(got, without(f, id)) {
				t.Errorf("%s without %d: %s", shows(f), id, shows(got))
			}
		}
	}
}

func TestSame(t *testing.T) {
	all := forests()
	for _, a := range all {
		for _, b := range all {
			if got := route.Same(a, b); got != allAlike(a, b) {
				t.Errorf("%s and %s: %v", shows(a), shows(b), got)
			}
		}
		if !route.Same(a, clones(a)) || !route.Same(clones(a), a) {
			t.Errorf("%s and a copy", shows(a))
		}
	}
	if !route.Same(nil, []api.Page{}) || !route.Same([]api.Page{}, nil) || route.Same(nil, []api.Page{{}}) || route.Same([]api.Page{{}}, nil) {
		t.Error("nil and empty")
	}
}

// Each field of each page alone tells two forests apart, and so does a page more or less.
func TestSameParts(t *testing.T) {
	apart := func(name string, f, g []api.Page) {
		t.Helper()
		if route.Same(f, g) || route.Same(g, f) {
			t.Errorf("%s: %s and %s", name, shows(f), shows(g))
		}
	}
	for _, p := range tree() {
		for name, turn := range map[string]func(p *api.Page){
			"Id":     func(p *api.Page) { p.Id += maxId },
			"Right":  func(p *api.Page) { p.Right++ },
			"Level":  func(p *api.Page) { p.Level++ },
			"Low":    func(p *api.Page) { p.Low += "\x00" },
			"High":   func(p *api.Page) { p.High += "\x00" },
			"End":    func(p *api.Page) { p.End = !p.End },
			"Dsn":    func(p *api.Page) { p.Dsn++ },
			"Set":    func(p *api.Page) { p.Set.Low++ },
			"Set.In": func(p *api.Page) { p.Set.In = append(p.Set.In, 999) },
			"Cells":  func(p *api.Page) { p.Cells = append(p.Cells, api.Cell{Key: "zz"}) },
		} {
			apart(name, tree(), with(tree(), p.Id, turn))
		}
		apart("without", tree(), without(tree(), p.Id))
	}
	f := tree()
	f[1], f[2] = f[2], f[1]
	apart("in another order", tree(), f)
	apart("twice", tree(), append(tree(), tree()...))
}

// Nothing is promised of what is no forest, but that the calls end.
func TestNoForest(t *testing.T) {
	r := rand.New(rand.NewSource(142))
	pages := right()
	for range 2000 {
		var f []api.Page
		for range r.Intn(8) {
			p := pages[r.Intn(len(pages))]
			p.Id = uint64(r.Intn(5))
			f = append(f, p)
		}
		for id := range uint64(6) {
			route.At(f, id)
			route.Put(f, api.Page{Id: id})
			route.Drop(f, id)
			route.Same(f, route.Drop(f, id))
			route.Find(f, id, "m", 0)
			route.Unposted(f, id)
			route.Cells(f, id)
			if e := route.Check(f, id); (e == api.OK) != plainValid(f, id) {
				t.Errorf("%s: %v", shows(f), e)
			}
		}
	}
}

// P14.3

// finds holds what Find returns against what is wanted; with an error that is no Ids.
func finds(t *testing.T, f []api.Page, root uint64, key string, level uint8, want []uint64, e api.Errno) {
	t.Helper()
	if got, gotE := route.Find(f, root, key, level); !slices.Equal(got, want) || gotE != e {
		t.Errorf("%s: root %d, %q, %d: %v, %v, not %v, %v", shows(f), root, key, level, got, gotE, want, e)
	}
}

func reached(ids ...uint64) []uint64 { return ids }

func TestFind(t *testing.T) {
	for _, c := range []struct {
		key   string
		level uint8
		want  []uint64
	}{
		{"", 0, reached(9, 4, 2)}, {"c\xff", 0, reached(9, 4, 2)}, {"d", 0, reached(9, 4, 5)}, {"f", 0, reached(9, 4, 5)}, {"g", 0, reached(9, 4, 5, 8)}, {"j\xff\xff", 0, reached(9, 4, 5, 8)},
		{"k", 0, reached(9, 7, 1)}, {"o\xff", 0, reached(9, 7, 1)}, {"p", 0, reached(9, 7, 6, 10)}, {"t", 0, reached(9, 7, 6, 10, 3)}, {"\xff", 0, reached(9, 7, 6, 10, 3)}, {strings.Repeat("z", 70000), 0, reached(9, 7, 6, 10, 3)},
		{"", 1, reached(9, 4)}, {"j", 1, reached(9, 4)}, {"k", 1, reached(9, 7)}, {"p", 1, reached(9, 7, 6)}, {"", 2, reached(9)}, {"z", 2, reached(9)},
	} {
		finds(t, tree(), 9, c.key, c.level, c.want, api.OK)
	}
	for _, level := range []uint8{3, 4, maxLevel, maxLevel + 1, 255} {
		for _, key := range []string{"", "k", "z"} {
			finds(t, tree(), 9, key, level, nil, api.ErrTree)
		}
	}
	for _, root := range []uint64{0, 11, maxId, maxId + 1, most} {
		finds(t, tree(), root, "", 0, nil, api.ErrTree)
	}
	finds(t, nil, 0, "", 0, nil, api.ErrTree)
	finds(t, nil, 1, "", 0, nil, api.ErrTree)
	finds(t, []api.Page{{}}, 0, "", 0, nil, api.ErrTree)
}

// A walk may begin anywhere, and asks nothing of the pages that it does not reach.
func TestFindElsewhere(t *testing.T) {
	finds(t, tree(), 4, "z", 1, reached(4, 7, 6), api.OK)
	finds(t, tree(), 4, "z", 0, reached(4, 7, 6, 10, 3), api.OK)
	finds(t, tree(), 2, "z", 0, reached(2, 5, 8, 1, 10, 3), api.OK)
	finds(t, tree(), 7, "k", 0, reached(7, 1), api.OK)
	finds(t, tree(), 7, "j", 0, nil, api.ErrTree)
	finds(t, tree(), 6, "k", 1, nil, api.ErrTree)
	finds(t, tree(), 4, "a", 2, nil, api.ErrTree)
	for _, id := range []uint64{9, 7, 6, 10, 3} {
		finds(t, without(tree(), id), 9, "z", 0, nil, api.ErrTree)
		finds(t, with(tree(), id, func(p *api.Page) { p.Dsn = maxLsn + 1 }), 9, "z", 0, nil, api.ErrTree)
		if id != 9 {
			finds(t, with(tree(), id, func(p *api.Page) { p.Dsn = maxLsn + 1 }), 9, "a", 0, reached(9, 4, 2), api.OK)
			finds(t, without(tree(), id), 9, "a", 0, reached(9, 4, 2), api.OK)
		}
	}
}

// A walk that comes to a page again takes more steps than there are pages; one that takes as many is found.
func TestFindEnds(t *testing.T) {
	round := forest(to(2, leaf(1, ""), "b"), to(3, leaf(2, "a"), "c"), to(1, leaf(3, "b"), "d"), leaf(4, "q"), leaf(5, "r"))
	finds(t, round, 1, "a", 0, reached(1), api.OK)
	finds(t, round, 1, "b", 0, reached(1, 2), api.OK)
	finds(t, round, 1, "c", 0, reached(1, 2, 3), api.OK)
	for _, key := range []string{"d", "q", "z"} {
		finds(t, round, 1, key, 0, nil, api.ErrTree)
		finds(t, round[:3], 3, key, 0, nil, api.ErrTree)
	}
	finds(t, round[:3], 1, "c", 0, reached(1, 2, 3), api.OK)
	finds(t, []api.Page{inner(1, 1, row("", kid(1))...)}, 1, "a", 0, nil, api.ErrTree)
	finds(t, []api.Page{inner(1, 1, row("", kid(1))...)}, 1, "a", 1, reached(1), api.OK)
	up := forest(inner(1, 1, row("", kid(2))...), inner(2, 5, row("", kid(3), "m", kid(1))...), leaf(3, ""))
	finds(t, up, 1, "a", 0, reached(1, 2, 3), api.OK)
	finds(t, up, 1, "m", 0, nil, api.ErrTree)
	finds(t, up, 2, "a", 1, nil, api.ErrTree)
	var row []api.Page
	for id := uint64(1); id <= maxId; id++ {
		row = append(row, leaf(id, string([]byte{byte(id >> 8), byte(id)})))
		if id > 1 {
			row[id-2] = to(id, row[id-2], row[id-1].Low)
		}
	}
	row[0].Low = ""
	all := make([]uint64, maxId)
	for i := range all {
		all[i] = uint64(i) + 1
	}
	finds(t, row, 1, "\xff", 0, all, api.OK)
	row[maxId-1] = to(1, row[maxId-1], "\xfe")
	finds(t, row, 1, "\xff", 0, nil, api.ErrTree)
}

// What a cell or a Right leads to is not where it should be.
func TestFindAstray(t *testing.T) {
	f := forest(inner(1, 3, row("", kid(2), "k", kid(3), "p", kid(4))...), leaf(2, ""), inner(3, 2, row("m", kid(2))...), to(3, inner(4, 3, row("p", kid(2))...), "q"))
	finds(t, f, 1, "a", 0, reached(1, 2), api.OK)
	finds(t, f, 1, "a", 1, nil, api.ErrTree)
	finds(t, f, 1, "a", 2, nil, api.ErrTree)
	finds(t, f, 1, "k", 2, nil, api.ErrTree)
	finds(t, f, 1, "m", 2, reached(1, 3), api.OK)
	finds(t, f, 1, "m", 0, reached(1, 3, 2), api.OK)
	finds(t, f, 1, "p", 0, reached(1, 4, 2), api.OK)
	finds(t, f, 1, "q", 0, reached(1, 4, 3, 2), api.OK)
	finds(t, f, 4, "q", 3, nil, api.ErrTree)
}

func TestFindRandom(t *testing.T) {
	r := rand.New(rand.NewSource(143))
	found, lost := 0, 0
	for range 1500 {
		f, root := grown(r, r.Intn(12), r.Intn(3))
		f = turned(r, f)
		keys := asked(f)
		for range 30 {
			key, level := keys[r.Intn(len(keys))], uint8(r.Intn(5))
			if r.Intn(4) == 0 && len(f) > 0 {
				root = f[r.Intn(len(f))].Id
			}
			want, e := plainFind(f, root, key, level)
			finds(t, f, root, key, level, want, e)
			if e == api.OK {
				found++
			} else {
				lost++
			}
		}
	}
	if found < 1000 || lost < 1000 {
		t.Error(found, "found,", lost, "not")
	}
}

// P14.4

// checks holds Check against what is wanted, and against the Terms.
func checks(t *testing.T, name string, f []api.Page, root uint64, want api.Errno) {
	t.Helper()
	if e := route.Check(f, root); e != want || (e == api.OK) != plainValid(f, root) {
		t.Errorf("%s: root %d: %v, not %v: %s", name, root, e, want, shows(f))
	}
}

// rooted is a forest and the root for which it is to be checked.
type rooted struct {
	f    []api.Page
	root uint64
}

// sound returns forests that are valid for their roots.
func sound() map[string]rooted {
	post := func(f []api.Page, id uint64, key string, child uint64) []api.Page {
		return with(f, id, func(p *api.Page) { p.Cells = append(p.Cells, row(key, kid(child))...) })
	}
	first := func(p *api.Page) { p.Cells = p.Cells[:1] }
	tower := []api.Page{leaf(1, "", row("a", "x")...)}
	for level := uint8(1); level <= maxLevel; level++ {
		tower = append(tower, inner(uint64(level)+1, level, row("", kid(uint64(level)))...))
	}
	bare := tree()
	for i := range bare {
		if bare[i].Level == 0 {
			bare[i].Cells = nil
		}
	}
	return map[string]rooted{
		"one leaf":         {[]api.Page{{Id: 1}}, 1},
		"another leaf":     {[]api.Page{leaf(maxId, "", row("", "x")...)}, maxId},
		"the tree":         {tree(), 9},
		"8 posted":         {post(tree(), 4, "g", 8), 9},
		"3 and 6 posted":   {post(post(tree(), 6, "t", 3), 9, "p", 6), 9},
		"fewer are posted": {with(with(tree(), 9, first), 4, first), 9},
		"one level more":   {append(tree(), inner(11, 3, row("", kid(9))...)), 11},
		"all levels":       {tower, maxLevel + 1},
		"no cells":         {bare, 9},
	}
}

func TestCheck(t *testing.T) {
	for name, c := range sound() {
		checks(t, name, c.f, c.root, api.OK)
		for _, p := range c.f {
			if p.Id != c.root {
				checks(t, name+", another root", c.f, p.Id, api.ErrTree)
			}
			checks(t, name+", a page less", without(c.f, p.Id), c.root, api.ErrTree)
		}
		for _, root := range []uint64{0, 399, maxId + 1, 1<<32 + 9, most} {
			checks(t, name+", no root", c.f, root, api.ErrTree)
		}
	}
	checks(t, "nil", nil, 1, api.ErrTree)
	checks(t, "nil", nil, 0, api.ErrTree)
	checks(t, "empty", []api.Page{}, 1, api.ErrTree)
}

// Ids have to be ascending.
func TestCheckOrder(t *testing.T) {
	for i := range tree() {
		for j := range tree()[:i] {
			f := tree()
			f[i], f[j] = f[j], f[i]
			checks(t, "swapped", f, 9, api.ErrTree)
		}
		checks(t, "twice", slices.Insert(tree(), i, tree()[i]), 9, api.ErrTree)
		checks(t, "twice, apart", append(tree(), tree()[i]), 9, api.ErrTree)
	}
	checks(t, "one leaf twice", []api.Page{{Id: 1}, {Id: 1}}, 1, api.ErrTree)
	// But for their Id, which is one, these two are a tree.
	checks(t, "a leaf and its parent", []api.Page{{Id: 1}, inner(1, 1, row("", kid(1))...)}, 1, api.ErrTree)
	checks(t, "a parent and its leaf", []api.Page{inner(1, 1, row("", kid(1))...), {Id: 1}}, 1, api.ErrTree)
}

// Each page has to be valid, which a page that no walk reaches has to be too.
func TestCheckPages(t *testing.T) {
	for _, p := range tree() {
		for name, turn := range map[string]func(p *api.Page){
			"dsn":   func(p *api.Page) { p.Dsn = maxLsn + 1 },
			"set":   func(p *api.Page) { p.Set = api.Lsns{Low: 5, In: []uint64{5}} },
			"cells": func(p *api.Page) { p.Cells = append(row("zz", kid(1)), p.Cells...) },
		} {
			checks(t, name, with(tree(), p.Id, turn), 9, api.ErrTree)
		}
	}
	for i, p := range wrong() {
		checks(t, fmt.Sprint("wrong ", i), []api.Page{p}, p.Id, api.ErrTree)
		if plainAt(tree(), p.Id) < 0 {
			checks(t, fmt.Sprint("wrong beside ", i), forest(append(tree(), p)...), 9, api.ErrTree)
		}
	}
}

// faults are changes of the tree after each of which one of the Terms' conditions does not hold.
func faults() map[string][]api.Page {
	set := func(id uint64, turn func(p *api.Page)) []api.Page { return with(tree(), id, turn) }
	more := func(p ...api.Page) []api.Page { return forest(append(tree(), p...)...) }
	cells := func(words ...string) func(p *api.Page) { return func(p *api.Page) { p.Cells = row(words...) } }
	return map[string][]api.Page{
		"a page above the root":         more(inner(11, 3, row("", kid(9))...)),
		"a page far above the root":     more(inner(11, maxLevel, row("", kid(9))...)),
		"a page beside the root":        more(inner(11, 2, row("", kid(4))...)),
		"a page right of the root":      forest(append(set(9, func(p *api.Page) { *p = to(11, *p, "s") }), inner(11, 2, row("s", kid(3))...))...),
		"a page left of the root":       forest(append(set(9, func(p *api.Page) { p.Low, p.Cells = "k", row("k", kid(7)) }), to(9, inner(11, 2, row("", kid(4))...), "k"))...),
		"the root has an end":           set(9, func(p *api.Page) { *p = to(8, *p, "s") }),
		"the root begins late":          set(9, func(p *api.Page) { p.Low, p.Cells = "k", row("k", kid(7)) }),
		"a gap":                         set(5, func(p *api.Page) { p.High = "f" }),
		"a gap at the right":            set(8, func(p *api.Page) { p.Low = "g\x00"; p.Cells = nil }),
		"a gap ahead of an inner page":  set(4, func(p *api.Page) { p.High = "j" }),
		"pages that overlap":            set(5, func(p *api.Page) { p.High = "h" }),
		"overlap at the right":          set(8, func(p *api.Page) { p.Low = "f" }),
		"inner pages that overlap":      set(4, func(p *api.Page) { p.High = "k\x00" }),
		"the last one has an end":       set(3, func(p *api.Page) { *p = to(11, *p, "zz") }),
		"the last one leads back":       set(3, func(p *api.Page) { *p = to(2, *p, "zz") }),
		"the last inner one has an end": set(6, func(p *api.Page) { *p = to(11, *p, "zz") }),
		"the first one begins late":     set(2, func(p *api.Page) { p.Low, p.Cells = "\x00", nil }),
		"an end too early":              set(5, func(p *api.Page) { p.Right, p.High, p.End = 0, "", false }),
		"an end too early, inner":       set(7, func(p *api.Page) { p.Right, p.High, p.End = 0, "", false }),
		"right is not there":            set(5, func(p *api.Page) { p.Right = 11 }),
		"right is another one":          set(5, func(p *api.Page) { p.Right = 1 }),
		"right is the left one":         set(5, func(p *api.Page) { p.Right = 2 }),
		"right is on another level":     set(2, func(p *api.Page) { p.Right = 4 }),
		"right is the root":             set(4, func(p *api.Page) { p.Right = 9 }),
		"a leaf too many":               more(to(8, leaf(11, "e"), "g")),
		"a leaf too many at the front":  more(to(5, leaf(11, ""), "d")),
		"a leaf too many at the end":    more(leaf(11, "zz")),
		"a leaf in place of all":        more(leaf(11, "")),
		"a leaf beside the last":        more(leaf(11, "t")),
		"an inner page too many":        more(inner(11, 1, row("t", kid(3))...)),
		"an inner page in front":        more(to(4, inner(11, 1, row("", kid(2))...), "k")),
		"a leaf is not there":           with(without(tree(), 8), 5, func(p *api.Page) { p.Right = 1 }),
		"a child is not there":          set(4, cells("", kid(2), "d", kid(11))),
		"no child is there":             set(9, cells("", kid(11))),
		"a child is another one":        set(4, cells("", kid(2), "d", kid(8))),
		"a child begins later":          set(4, cells("", kid(2), "c", kid(5))),
		"a child begins earlier":        set(4, cells("", kid(2), "e", kid(5))),
		"a child of two cells":          set(4, cells("", kid(2), "d", kid(2))),
		"the first child begins later":  set(6, cells("p", kid(3))),
		"a child two levels below":      set(9, cells("", kid(4), "k", kid(1))),
		"the first child is far below":  set(9, cells("", kid(2))),
		"a child on the same level":     set(7, cells("k", kid(7))),
		"the first child is itself":     set(9, cells("", kid(9))),
		"a child above":                 set(4, cells("", kid(9), "d", kid(5))),
		"a leaf became an inner page":   set(3, func(p *api.Page) { p.Level, p.Set, p.Cells = 1, api.Lsns{}, row("t", kid(10)) }),
		"an inner page became a leaf":   set(6, func(p *api.Page) { p.Level, p.Cells = 0, nil }),
		"a level is left out":           with(without(without(without(tree(), 4), 6), 7), 9, cells("", kid(2))),
		"the root is too high":          set(9, func(p *api.Page) { p.Level = 3 }),
		"the root is the highest":       set(9, func(p *api.Page) { p.Level = maxLevel }),
		"the root is too low":           set(9, func(p *api.Page) { p.Level = 1 }),
		"no leaves":                     {tree()[3], tree()[5], tree()[6], tree()[8]},
	}
}

func TestCheckFaults(t *testing.T) {
	for name, f := range faults() {
		checks(t, name, f, 9, api.ErrTree)
		for i, p := range f {
			if e := page.Check(p); e != api.OK || i > 0 && f[i-1].Id >= p.Id {
				t.Errorf("%s: %s: %v", name, show(p), e)
			}
		}
	}
	for name, f := range map[string][]api.Page{
		"two leaves":           {to(2, leaf(1, ""), "m"), leaf(2, "m")},
		"two whole leaves":     {leaf(1, ""), leaf(2, "")},
		"a leaf that is late":  {leaf(1, "a")},
		"a leaf with an end":   {to(2, leaf(1, ""), "a")},
		"an inner page alone":  {inner(1, 1, row("", kid(2))...)},
		"a root as its child":  {inner(1, 1, row("", kid(1))...)},
		"a tree and a leaf":    {inner(1, 1, row("", kid(2))...), leaf(2, ""), leaf(3, "")},
		"a level above a leaf": {leaf(1, ""), inner(2, 2, row("", kid(1))...)},
	} {
		for root := range uint64(4) {
			checks(t, name, f, root, api.ErrTree)
		}
	}
}

func TestCheckRandom(t *testing.T) {
	r := rand.New(rand.NewSource(144))
	valid, not := 0, 0
	for n := range 6000 {
		f, root := grown(r, r.Intn(1+n%30), r.Intn(4))
		checks(t, "grown", f, root, api.OK)
		f = turned(r, f)
		want := api.ErrTree
		if plainValid(f, root) {
			want = api.OK
			valid++
		} else {
			not++
		}
		checks(t, "turned", f, root, want)
	}
	if valid < 1000 || not < 1000 {
		t.Error(valid, "valid,", not, "not")
	}
}

// As many pages as there may be.
func TestCheckMany(t *testing.T) {
	r := rand.New(rand.NewSource(145))
	var f []api.Page
	top := inner(1, 1, row("", kid(2))...)
	for id := uint64(2); id <= maxId; id++ {
		low := string([]byte{byte(id >> 8), byte(id)})
		if id == 2 {
			low = ""
		} else if r.Intn(3) > 0 {
			top.Cells = append(top.Cells, row(low, kid(id))...)
		}
		f = append(f, leaf(id, low))
		if id > 2 {
			f[id-3] = to(id, f[id-3], low)
		}
	}
	f = forest(append(f, top)...)
	checks(t, "400 pages", f, 1, api.OK)
	if got, want := route.Unposted(f, 1), plainUnposted(f, 1); !slices.Equal(got, want) || len(got) != maxId-1-len(top.Cells) {
		t.Errorf("%v, not %v", got, want)
	}
	last := f[maxId-1]
	last.Id = maxId + 1
	checks(t, "401 pages", append(with(f, maxId, func(p *api.Page) { *p = to(maxId+1, *p, "\xff") }), leaf(maxId+1, "\xff")), 1, api.ErrTree)
	checks(t, "a page 401", append(without(f, maxId), last), 1, api.ErrTree)
}

// P14.5

// sees holds Unposted and Cells against what is wanted.
func sees(t *testing.T, name string, f []api.Page, root uint64, unposted []uint64, cells []api.Cell) {
	t.Helper()
	if got := route.Unposted(f, root); !slices.Equal(got, unposted) {
		t.Errorf("%s: %s: Unposted %v, not %v", name, shows(f), got, unposted)
	}
	if got := route.Cells(f, root); !slices.Equal(got, cells) {
		t.Errorf("%s: %s: Cells %v, not %v", name, shows(f), got, cells)
	}
}

func TestInspection(t *testing.T) {
	all := row("a", "1", "c", "2", "d", "3", "g", "4", "j\xff", "5", "l", "6", "t", "7", "z", "8")
	few := row("a", "x")
	for name, want := range map[string]struct {
		unposted []uint64
		cells    []api.Cell
	}{
		"one leaf":         {nil, nil},
		"another leaf":     {nil, row("", "x")},
		"the tree":         {reached(3, 6, 8), all},
		"8 posted":         {reached(3, 6), all},
		"3 and 6 posted":   {reached(8), all},
		"fewer are posted": {reached(3, 5, 6, 7, 8), all},
		"one level more":   {reached(3, 6, 8), all},
		"all levels":       {nil, few},
		"no cells":         {reached(3, 6, 8), nil},
	} {
		c, is := sound()[name]
		if !is {
			t.Error(name)
		}
		sees(t, name, c.f, c.root, want.unposted, want.cells)
		for _, p := range c.f {
			if p.Id != c.root {
				sees(t, name+", another root", c.f, p.Id, nil, nil)
			}
			sees(t, name+", a page less", without(c.f, p.Id), c.root, nil, nil)
		}
	}
}

func TestInspectionOfNone(t *testing.T) {
	for name, f := range faults() {
		sees(t, name, f, 9, nil, nil)
	}
	for _, p := range wrong() {
		sees(t, "wrong", []api.Page{p}, p.Id, nil, nil)
	}
	f := tree()
	f[0], f[1] = f[1], f[0]
	sees(t, "not in order", f, 9, nil, nil)
	sees(t, "nil", nil, 1, nil, nil)
	sees(t, "no root", tree(), 0, nil, nil)
	// Values of leaves that look like children post nothing.
	sees(t, "no child", forest(inner(1, 1, row("", kid(2))...), to(3, leaf(2, "", row("a", kid(3))...), "m"), leaf(3, "m")), 1, reached(3), row("a", kid(3)))
}

func TestInspectionRandom(t *testing.T) {
	r := rand.New(rand.NewSource(146))
	for n := range 3000 {
		f, root := grown(r, r.Intn(1+n%40), r.Intn(4))
		sees(t, "grown", f, root, plainUnposted(f, root), plainCells(f))
		if f = turned(r, f); !plainValid(f, root) {
			sees(t, "turned", f, root, nil, nil)
		}
	}
}

// P14.6

// ends checks that in a valid forest all walks from the root end at the page of the level that has the key.
func ends(t *testing.T, f []api.Page, root uint64) {
	t.Helper()
	all := route.Cells(f, root)
	top := f[plainAt(f, root)].Level
	for _, key := range asked(f) {
		for level := range top + 1 {
			ids, e := route.Find(f, root, key, level)
			if e != api.OK || len(ids) == 0 {
				t.Errorf("%s: root %d, %q, %d: %v, %v", shows(f), root, key, level, ids, e)
				continue
			}
			p := f[plainAt(f, ids[len(ids)-1])]
			if p.Level != level || key < p.Low || p.End && key >= p.High {
				t.Errorf("%s: root %d, %q, %d: %v", shows(f), root, key, level, ids)
			}
			if level > 0 {
				continue
			}
			hasKey := func(c api.Cell) bool { return c.Key == key }
			here, there := slices.IndexFunc(p.Cells, hasKey), slices.IndexFunc(all, hasKey)
			if (here < 0) != (there < 0) || here >= 0 && p.Cells[here] != all[there] {
				t.Errorf("%s: root %d, %q: %d on the page %d, %d in all", shows(f), root, key, here, p.Id, there)
			}
		}
	}
}

func TestEachKeyIsFound(t *testing.T) {
	for _, c := range sound() {
		ends(t, c.f, c.root)
	}
	r := rand.New(rand.NewSource(147))
	for n := range 200 {
		f, root := grown(r, r.Intn(1+n%20), r.Intn(4))
		ends(t, f, root)
		if f = turned(r, f); route.Check(f, root) == api.OK {
			ends(t, f, root)
		}
	}
}

// R5: what is handed in is neither changed nor shared, its spare capacity included.

// spare returns a forest whose lists have something behind their ends.
func spare() []api.Page {
	f := tree()
	for i := range f {
		f[i].Set.In = append(f[i].Set.In, 77, 78)
		f[i].Cells = append(f[i].Cells, row("spare", "1", "spare", "2")...)
	}
	return append(f, leaf(77, "spare"), leaf(78, "spare"))
}

// cut leaves the spare parts out, which stay behind the ends.
func cut(f []api.Page) []api.Page {
	for i := range f[:len(f)-2] {
		f[i].Set.In = f[i].Set.In[:len(f[i].Set.In)-2]
		f[i].Cells = f[i].Cells[:len(f[i].Cells)-2]
	}
	return f[:len(f)-2]
}

// isWhole reports whether what spare returned is still all there.
func isWhole(f []api.Page) bool {
	f = slices.Clone(f[:len(f)+2])
	for i := range f[:len(f)-2] {
		f[i].Set.In = f[i].Set.In[:len(f[i].Set.In)+2]
		f[i].Cells = f[i].Cells[:len(f[i].Cells)+2]
	}
	return allAlike(f, spare())
}

// spoil overwrites a list, with all of its capacity.
func spoil[T any](l []T) {
	var none T
	for i := range l[:cap(l)] {
		l[:cap(l)][i] = none
	}
}

func spoilPages(f []api.Page) {
	for _, p := range f[:cap(f)] {
		spoil(p.Set.In)
		spoil(p.Cells)
	}
	spoil(f)
}

func TestNothingIsChanged(t *testing.T) {
	f := cut(spare())
	g := cut(spare())
	p := f[3]
	for name, call := range map[string]func(){
		"Step": func() { route.Step(p, "m", 0) },
		"At":   func() { p, _ := route.At(f, 5); spoil(p.Cells); spoil(p.Set.In) },
		"Put a page": func() {
			spoilPages(route.Put(f, p))
		},
		"Put a new page": func() {
			p := p
			p.Id = 11
			spoilPages(route.Put(f, p))
		},
		"Put in front": func() {
			p := p
			p.Id = 0
			spoilPages(route.Put(f, p))
		},
		"Put in an empty forest": func() { spoilPages(route.Put(f[:0], p)) },
		"Drop":                   func() { spoilPages(route.Drop(f, 5)) },
		"Drop the last":          func() { spoilPages(route.Drop(f, 10)) },
		"Drop none":              func() { spoilPages(route.Drop(f, 11)) },
		"Find":                   func() { l, _ := route.Find(f, 9, "z", 0); spoil(l) },
		"Check":                  func() { route.Check(f, 9) },
		"Unposted":               func() { spoil(route.Unposted(f, 9)) },
		"Cells":                  func() { spoil(route.Cells(f, 9)) },
		"Cells of one leaf":      func() { spoil(route.Cells(f[2:3:3], 3)) },
		"Same":                   func() { route.Same(f, g) },
	} {
		call()
		if !isWhole(f) || !isWhole(g) || !alike(p, f[3]) {
			t.Errorf("%s: %s", name, shows(f))
			return
		}
	}
	one := []api.Page{leaf(1, "", row("a", "x", "b", "y")...)}
	spoil(route.Cells(one, 1))
	if !allAlike(one, []api.Page{leaf(1, "", row("a", "x", "b", "y")...)}) {
		t.Errorf("Cells of one leaf: %s", shows(one))
	}
}

// No two lists of an answer share memory, nor an answer with a later one.
func TestAnswersApart(t *testing.T) {
	f := cut(spare())
	for name, call := range map[string]func() []api.Page{
		"Put":        func() []api.Page { return route.Put(f, f[4]) },
		"Put a new":  func() []api.Page { return route.Put(f, leaf(77, "zz", row("zz", "x")...)) },
		"Drop":       func() []api.Page { return route.Drop(f, 5) },
		"Drop none":  func() []api.Page { return route.Drop(f, 55) },
		"Put a twin": func() []api.Page { return route.Put(f, func() api.Page { p := f[4]; p.Id = 77; return p }()) },
	} {
		got := call()
		want := clones(got)
		for i := range got {
			// To grow one list must not be seen in another one.
			_, _ = append(got[i].Cells, row("new", "x", "new", "y")...), append(got[i].Set.In, 5, 6)
			if !allAlike(got, want) {
				t.Errorf("%s: %s", name, shows(got))
			}
		}
		for i := range got {
			spoil(got[i].Cells)
			spoil(got[i].Set.In)
			for j := i + 1; j < len(got); j++ {
				if !alike(got[j], want[j]) {
					t.Errorf("%s: %s and %s", name, show(got[i]), show(got[j]))
				}
			}
		}
		if !allAlike(call(), want) {
			t.Errorf("%s: again", name)
		}
	}
}

// The chapter's examples.
func TestExamples(t *testing.T) {
	f := []api.Page{
		{Id: 1, Level: 1, Cells: row("", kid(2))},
		{Id: 2, Right: 3, High: "m", End: true},
		{Id: 3, Low: "m"},
	}
	finds(t, f, 1, "a", 0, reached(1, 2), api.OK)
	finds(t, f, 1, "z", 0, reached(1, 2, 3), api.OK)
	finds(t, f, 1, "z", 1, reached(1), api.OK)
	sees(t, "not posted", f, 1, reached(3), nil)
	posted := clones(f)
	posted[0].Cells = row("", kid(2), "m", kid(3))
	sees(t, "posted", posted, 1, nil, nil)
	if id, way, e := route.Step(f[1], "z", 0); id != 3 || way != api.WayRight || e != api.OK {
		t.Error(id, way, e)
	}
	if id, way, e := route.Step(f[2], "a", 0); id != 0 || way != 0 || e != api.ErrTree {
		t.Error(id, way, e)
	}
}

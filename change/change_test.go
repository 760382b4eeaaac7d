package change_test

import (
	"encoding/binary"
	"fmt"
	"math"
	"math/rand"
	"slices"
	"strings"
	"testing"

	"lockkeeper/api"
	"lockkeeper/change"
	"lockkeeper/merge"
	"lockkeeper/page"
	"lockkeeper/route"
	"lockkeeper/split"
)

const (
	maxId    = 400
	maxLevel = 10
	maxPages = 4
	maxLsn   = uint64(1) << 48
	most     = uint64(math.MaxUint64)
)

// kid is a page's number as eight bytes.
func kid(id uint64) string { return string(binary.BigEndian.AppendUint64(nil, id)) }

// row makes cells of keys and values by turns.
func row(words ...string) []api.Cell {
	var l []api.Cell
	for i := 0; i+1 < len(words); i += 2 {
		l = append(l, api.Cell{Key: words[i], Value: words[i+1]})
	}
	return l
}

// set makes a Set of its Low and the numbers above it.
func set(low uint64, in ...uint64) api.Lsns { return api.Lsns{Low: low, In: in} }

// leaf makes a page that is different for each id, with the Dsn 7.
func leaf(id uint64) api.Page {
	return api.Page{Id: id, Dsn: 7, Set: set(id, id+2, id+9), Cells: row("a", fmt.Sprint(id), "k", "v")}
}

func inner(id uint64, level uint8) api.Page {
	return api.Page{Id: id, Level: level, Dsn: 7, Cells: row("", kid(11), "m", kid(12))}
}

func to(right uint64, p api.Page, high string) api.Page {
	p.Right, p.High, p.End = right, high, true
	return p
}

// at returns the page with another Dsn.
func at(dsn uint64, p api.Page) api.Page {
	p.Dsn = dsn
	return p
}

// of makes a list of pages: leaves of these Ids.
func of(ids ...uint64) []api.Page {
	var l []api.Page
	for _, id := range ids {
		l = append(l, leaf(id))
	}
	return l
}

// made makes a change of leaves.
func made(gone []uint64, ids ...uint64) api.Change { return api.Change{Pages: of(ids...), Gone: gone} }

func list(n ...uint64) []uint64 { return n }

func clone(p api.Page) api.Page {
	p.Set.In, p.Cells = slices.Clone(p.Set.In), slices.Clone(p.Cells)
	return p
}

func clones(f []api.Page) []api.Page {
	var l []api.Page
	for _, p := range f {
		l = append(l, clone(p))
	}
	return l
}

func copyOf(c api.Change) api.Change {
	return api.Change{Pages: clones(c.Pages), Gone: slices.Clone(c.Gone)}
}

// show is a page, of which not more is told than can be read.
func show(p api.Page) string {
	s := fmt.Sprintf("{%d dsn %d level %d %.9q", p.Id, p.Dsn, p.Level, p.Low)
	if p.End || p.High != "" || p.Right != 0 {
		s += fmt.Sprintf(" to %.9q %v right %d", p.High, p.End, p.Right)
	}
	return s + fmt.Sprintf(" set %d %v, %d cells %.9q}", p.Set.Low, p.Set.In[:min(len(p.Set.In), 5)], len(p.Cells), p.Cells[:min(len(p.Cells), 3)])
}

func shows(f []api.Page) string {
	var l []string
	for _, p := range f[:min(len(f), 12)] {
		l = append(l, show(p))
	}
	return strings.Join(l, " ")
}

func told(c api.Change) string { return fmt.Sprintf("[%s; gone %v]", shows(c.Pages), c.Gone) }

// alike reports whether two pages are equal, held against each other here.
func alike(a, b api.Page) bool {
	return slices.Equal(a.Set.In, b.Set.In) && slices.Equal(a.Cells, b.Cells) &&
		a.Id == b.Id && a.Right == b.Right && a.Level == b.Level && a.Low == b.Low && a.High == b.High && a.End == b.End && a.Dsn == b.Dsn && a.Set.Low == b.Set.Low
}

func allAlike(a, b []api.Page) bool { return slices.EqualFunc(a, b, alike) }

func same(a, b api.Change) bool { return allAlike(a.Pages, b.Pages) && slices.Equal(a.Gone, b.Gone) }

// The chapter's Terms and Promises once more, as plainly as can be.

func plainValid(c api.Change) bool {
	if len(c.Pages) < 1 || len(c.Pages) > maxPages || len(c.Gone) > maxPages {
		return false
	}
	for i, p := range c.Pages {
		if page.Check(p) != api.OK || p.Dsn == 0 || p.Dsn != c.Pages[0].Dsn {
			return false
		}
		for _, q := range c.Pages[:i] {
			if q.Id >= p.Id {
				return false
			}
		}
		for _, id := range c.Gone {
			if id == p.Id {
				return false
			}
		}
	}
	for i, id := range c.Gone {
		if id < 1 || id > maxId {
			return false
		}
		for _, n := range c.Gone[:i] {
			if n >= id {
				return false
			}
		}
	}
	return true
}

// plainMake puts each page, and each number, in front of the first one that is not below it.
func plainMake(pages []api.Page, gone []uint64, dsn uint64) (api.Change, api.Errno) {
	var c api.Change
	for _, p := range pages {
		i := 0
		for i < len(c.Pages) && c.Pages[i].Id < p.Id {
			i++
		}
		c.Pages = slices.Insert(c.Pages, i, at(dsn, clone(p)))
	}
	for _, id := range gone {
		i := 0
		for i < len(c.Gone) && c.Gone[i] < id {
			i++
		}
		c.Gone = slices.Insert(c.Gone, i, id)
	}
	if !plainValid(c) {
		return api.Change{}, api.ErrChange
	}
	return c, api.OK
}

// plainBytes are the bytes of a change, valid or not, as long as its pages are and its counts fit a byte.
func plainBytes(c api.Change) string {
	b := []byte{byte(len(c.Pages))}
	for _, p := range c.Pages {
		s, _ := page.Put(p)
		b = append(binary.BigEndian.AppendUint32(b, uint32(len(s))), s...)
	}
	b = append(b, byte(len(c.Gone)))
	for _, id := range c.Gone {
		b = binary.BigEndian.AppendUint32(b, uint32(id))
	}
	return string(b)
}

// plainGet cuts what it needs off the front of s; what is not there makes it give up.
func plainGet(s string) (c api.Change, e api.Errno) {
	defer func() {
		if recover() != nil {
			c, e = api.Change{}, api.ErrChange
		}
	}()
	take := func(n uint64) string {
		if n > uint64(len(s)) {
			panic("too short")
		}
		t := s[:n]
		s = s[n:]
		return t
	}
	number := func() uint64 { return uint64(binary.BigEndian.Uint32([]byte(take(4)))) }
	for n := take(1)[0]; n > 0; n-- {
		p, e := page.Get(take(number()))
		if e != api.OK {
			panic("no page")
		}
		c.Pages = append(c.Pages, p)
	}
	for n := take(1)[0]; n > 0; n-- {
		c.Gone = append(c.Gone, number())
	}
	if s != "" || !plainValid(c) {
		panic("not valid")
	}
	return c, api.OK
}

func plainMost(c api.Change) uint64 {
	var n uint64
	for _, p := range c.Pages {
		for _, k := range append(slices.Clone(p.Set.In), p.Set.Low) {
			n = max(n, k)
		}
	}
	return n
}

// plainApply goes through all Ids, and asks of each one which page is to have it.
func plainApply(f []api.Page, c api.Change) ([]api.Page, api.Errno) {
	if !plainValid(c) {
		return nil, api.ErrChange
	}
	byId := func(l []api.Page, id uint64) *api.Page {
		for i := range l {
			if l[i].Id == id {
				return &l[i]
			}
		}
		return nil
	}
	var ids []uint64
	for _, p := range slices.Concat(f, c.Pages) {
		ids = append(ids, p.Id)
	}
	slices.Sort(ids)
	var after []api.Page
	for _, id := range slices.Compact(ids) {
		was, is := byId(f, id), byId(c.Pages, id)
		switch {
		case was != nil && was.Dsn >= c.Pages[0].Dsn:
			after = append(after, clone(*was))
		case is != nil:
			after = append(after, clone(*is))
		case !slices.Contains(c.Gone, id):
			after = append(after, clone(*was))
		}
	}
	return after, api.OK
}

// Changes that are passed.

// right returns valid changes, no two of which are equal.
func right() []api.Change {
	low := leaf(1)
	low.Low = "a"
	other := leaf(1)
	other.Cells[1].Value = "w"
	one := func(p api.Page, gone ...uint64) api.Change { return api.Change{Pages: []api.Page{p}, Gone: gone} }
	return []api.Change{
		made(nil, 1), made(nil, 2), made(nil, 400), made(nil, 1, 2), made(nil, 399, 400), made(nil, 1, 2, 3), made(nil, 1, 2, 3, 4), made(nil, 1, 100, 200, 400), made(nil, 9, 10, 256, 257),
		made(list(2), 1), made(list(1), 2), made(list(400), 1), made(list(1), 400), made(list(2, 3), 1), made(list(1, 3), 2), made(list(1, 2, 3, 4), 5), made(list(397, 398, 399, 400), 1, 2, 3, 4), made(list(1, 3, 5, 7), 2, 4, 6, 8),
		one(api.Page{Id: 1, Dsn: 1}), one(at(1, leaf(1))), one(at(maxLsn, leaf(1))), one(at(8, leaf(1)), 2), one(low), one(other), one(to(2, leaf(1), "m")), one(to(2, leaf(1), "m"), 2), one(to(3, leaf(1), "m")), one(to(2, leaf(1), "n")),
		one(inner(1, 1)), one(inner(1, 2)), one(inner(1, maxLevel)), {Pages: []api.Page{inner(1, 1), leaf(2), to(4, inner(3, 1), "p")}, Gone: list(11, 12)},
		one(api.Page{Id: 1, Dsn: 7, Set: set(maxLsn)}), one(api.Page{Id: 1, Dsn: 7, Set: set(0, maxLsn)}), one(api.Page{Id: 1, Dsn: 7, Set: set(5)}), one(api.Page{Id: 1, Dsn: 7, Set: set(0, 5)}),
		{Pages: []api.Page{{Id: 1, Dsn: 7, Set: set(0, 99)}, {Id: 2, Dsn: 7, Set: set(98)}, {Id: 3, Dsn: 7, Set: set(9, 97)}}}, {Pages: []api.Page{{Id: 1, Dsn: 7, Set: set(0, 3)}, {Id: 2, Dsn: 7, Set: set(98)}, {Id: 3, Dsn: 7, Set: set(9, 97)}}},
	}
}

// ill returns pages that are not valid; all but the first four have Ids and a Dsn that a change may have.
func ill() []api.Page {
	noFloor := inner(1, 1)
	noFloor.Low = "a"
	withSet := inner(1, 1)
	withSet.Set = set(3)
	tooHigh := inner(1, maxLevel+1)
	return []api.Page{
		{Dsn: 7}, leaf(0), leaf(401), at(maxLsn+1, leaf(1)),
		noFloor, withSet, tooHigh, {Id: 1, Dsn: 7, Right: 2}, to(1, leaf(1), "m"), to(2, leaf(1), "b"), {Id: 1, Dsn: 7, High: "m"}, {Id: 1, Dsn: 7, Level: 1},
		{Id: 1, Dsn: 7, Set: set(3, 3)}, {Id: 1, Dsn: 7, Set: set(0, maxLsn+1)}, {Id: 1, Dsn: 7, Cells: row("b", "x", "a", "y")}, {Id: 1, Dsn: 7, Cells: row(strings.Repeat("k", 513), "x")},
	}
}

// wrong returns changes that are not valid, each one by one thing.
func wrong() map[string]api.Change {
	l := map[string]api.Change{
		"none":                      {},
		"no pages":                  {Gone: list(2)},
		"five pages":                made(nil, 1, 2, 3, 4, 5),
		"five hundred pages":        {Pages: slices.Repeat(of(1), 500)},
		"pages in another order":    made(nil, 2, 1),
		"the last page in front":    made(nil, 1, 2, 4, 3),
		"a page twice":              made(nil, 1, 1),
		"the last page twice":       made(nil, 1, 2, 2),
		"the Dsn 0":                 {Pages: []api.Page{at(0, leaf(1))}},
		"two of the Dsn 0":          {Pages: []api.Page{at(0, leaf(1)), at(0, leaf(2))}},
		"another Dsn":               {Pages: []api.Page{leaf(1), at(8, leaf(2))}},
		"the last one's Dsn":        {Pages: []api.Page{leaf(1), leaf(2), leaf(3), at(6, leaf(4))}},
		"a Dsn 0 behind others":     {Pages: []api.Page{leaf(1), at(0, leaf(2))}},
		"a Dsn too great":           {Pages: []api.Page{at(maxLsn+1, leaf(1))}},
		"the greatest Dsn":          {Pages: []api.Page{at(most, leaf(1))}},
		"five gone":                 made(list(2, 3, 4, 5, 6), 1),
		"gone in another order":     made(list(3, 2), 1),
		"the last gone in front":    made(list(2, 3, 5, 4), 1),
		"gone twice":                made(list(2, 2), 1),
		"the last gone twice":       made(list(2, 3, 4, 4), 1),
		"0 gone":                    made(list(0), 1),
		"0 and others gone":         made(list(0, 2), 1),
		"401 gone":                  made(list(401), 1),
		"others and 401 gone":       made(list(2, 3, 401), 1),
		"the greatest gone":         made(list(most), 1),
		"2^32 and 2 gone":           made(list(1<<32+2), 1),
		"the page gone":             made(list(1), 1),
		"the last page gone":        made(list(4), 1, 2, 3, 4),
		"the last gone, first page": made(list(1, 2, 3, 4), 4),
		"a page between gone":       made(list(1, 2, 3), 2, 5),
	}
	for i, p := range ill() {
		l[fmt.Sprint("not valid ", i)] = api.Change{Pages: []api.Page{p}}
		if q := p; q.Id == 1 {
			q.Id = 3
			if p.Right == p.Id {
				q.Right = 3
			}
			l[fmt.Sprint("others, and not valid ", i)] = api.Change{Pages: []api.Page{leaf(1), leaf(2), q}, Gone: list(4)}
		}
	}
	return l
}

// all returns valid changes and others.
func all() []api.Change {
	l := right()
	for _, c := range wrong() {
		l = append(l, c)
	}
	return l
}

// somePage makes a page of one of few contents; now and then it is not valid.
func somePage(r *rand.Rand, id uint64) api.Page {
	p := api.Page{Id: id, Dsn: uint64(1 + r.Intn(5)), Set: set(uint64(r.Intn(3)), uint64(3+r.Intn(40)))}
	switch r.Intn(8) {
	case 0:
		p = inner(id, uint8(1+r.Intn(3)))
	case 1:
		p.Set = api.Lsns{}
	case 2:
		p = to(id%maxId+1, p, "m")
	case 3:
		p.Cells = row("", "x", "b", strings.Repeat("y", r.Intn(40)))
	}
	return p
}

// someIds returns some different numbers of pages, in order; mostly small ones.
func someIds(r *rand.Rand, n int) []uint64 {
	var l []uint64
	for range n {
		id := uint64(1 + r.Intn(9))
		if r.Intn(12) == 0 {
			id = uint64(1 + r.Intn(maxId))
		}
		l = append(l, id)
	}
	slices.Sort(l)
	return slices.Compact(l)
}

// forest makes pages with ascending Ids, of some Dsns.
func forest(r *rand.Rand) []api.Page {
	var f []api.Page
	for _, id := range someIds(r, r.Intn(12)) {
		f = append(f, at(uint64(r.Intn(9)), somePage(r, id)))
	}
	return f
}

// some makes a change that is valid in most cases: all Ids are different, mostly.
func some(r *rand.Rand, dsn uint64) api.Change {
	var c api.Change
	for _, id := range someIds(r, 1+r.Intn(maxPages)) {
		c.Pages = append(c.Pages, at(dsn, somePage(r, id)))
	}
	for _, id := range someIds(r, r.Intn(maxPages+1)) {
		if r.Intn(60) == 0 || !slices.ContainsFunc(c.Pages, func(p api.Page) bool { return p.Id == id }) {
			c.Gone = append(c.Gone, id)
		}
	}
	return c
}

// valid makes one that is.
func valid(r *rand.Rand, dsn uint64) api.Change {
	for {
		if c := some(r, dsn); plainValid(c) {
			return c
		}
	}
}

// bent makes a change one thing of which is mostly wrong.
func bent(r *rand.Rand) api.Change {
	c := copyOf(some(r, uint64(r.Intn(9))))
	i := r.Intn(len(c.Pages))
	switch r.Intn(7) {
	case 0:
		c.Pages[i].Dsn = uint64(r.Intn(9))
	case 1:
		c.Pages[i].Id = uint64(r.Intn(maxId + 2))
	case 2:
		c.Pages = append(c.Pages, leaf(uint64(r.Intn(12))))
	case 3:
		c.Gone = append(c.Gone, uint64(r.Intn(maxId+2)))
	case 4:
		c.Pages[i] = ill()[r.Intn(len(ill()))]
	case 5:
		r.Shuffle(len(c.Gone), func(i, j int) { c.Gone[i], c.Gone[j] = c.Gone[j], c.Gone[i] })
	}
	return c
}

// P17.1

func wantCheck(c api.Change) api.Errno {
	if plainValid(c) {
		return api.OK
	}
	return api.ErrChange
}

func TestCheck(t *testing.T) {
	for _, c := range right() {
		if e := change.Check(c); e != api.OK {
			t.Errorf("%s: %v", told(c), e)
		}
	}
	for name, c := range wrong() {
		if e := change.Check(c); e != api.ErrChange {
			t.Errorf("%s: %v: %s", name, e, told(c))
		}
	}
}

func TestCheckRandom(t *testing.T) {
	r := rand.New(rand.NewSource(171))
	seen := map[api.Errno]int{}
	for range 20000 {
		c := bent(r)
		e := change.Check(c)
		seen[e]++
		if e != wantCheck(c) {
			t.Errorf("%s: %v", told(c), e)
		}
	}
	if len(seen) != 2 || seen[api.OK] < 3000 || seen[api.ErrChange] < 3000 {
		t.Error(seen)
	}
}

// makes holds Make of pages and numbers, in any order, against what it is to return.
func makes(t *testing.T, pages []api.Page, gone []uint64, dsn uint64) api.Errno {
	t.Helper()
	got, e := change.Make(pages, gone, dsn)
	want, wantE := plainMake(pages, gone, dsn)
	if e != wantE || !same(got, want) {
		t.Errorf("Make %s, %v, %d: %s, %v, not %s, %v", shows(pages), gone, dsn, told(got), e, told(want), wantE)
	}
	return e
}

// Whatever is sorted and gets one Dsn is a change, if that is valid.
func TestMake(t *testing.T) {
	for _, c := range all() {
		back := copyOf(c)
		slices.Reverse(back.Pages)
		slices.Reverse(back.Gone)
		for _, dsn := range list(0, 1, 7, 8, maxLsn-1, maxLsn, maxLsn+1, most) {
			makes(t, c.Pages, c.Gone, dsn)
			makes(t, back.Pages, back.Gone, dsn)
		}
	}
}

func TestMakeEdges(t *testing.T) {
	four := of(3, 400, 1, 2)
	for name, c := range map[string]struct {
		pages []api.Page
		gone  []uint64
		dsn   uint64
		want  api.Errno
	}{
		"one":                {of(1), nil, 1, api.OK},
		"four":               {four, list(7, 9, 8, 6), maxLsn, api.OK},
		"other Dsns":         {[]api.Page{at(0, leaf(2)), at(9, leaf(1))}, nil, 3, api.OK},
		"Dsns too great":     {[]api.Page{at(most, leaf(2)), at(maxLsn+1, leaf(1))}, nil, 3, api.OK},
		"no pages":           {nil, list(1), 1, api.ErrChange},
		"nothing":            {nil, nil, 1, api.ErrChange},
		"five":               {of(1, 5, 2, 4, 3), nil, 1, api.ErrChange},
		"five gone":          {of(1), list(5, 2, 4, 3, 6), 1, api.ErrChange},
		"a page twice":       {of(2, 1, 2), nil, 1, api.ErrChange},
		"gone twice":         {of(1), list(3, 2, 3), 1, api.ErrChange},
		"the page gone":      {of(2, 1), list(4, 2), 1, api.ErrChange},
		"0 gone":             {of(2, 1), list(4, 0), 1, api.ErrChange},
		"400 gone":           {of(2, 1), list(400, 4), 1, api.OK},
		"401 gone":           {of(2, 1), list(401, 4), 1, api.ErrChange},
		"the Dsn 0":          {of(2, 1), list(4), 0, api.ErrChange},
		"a Dsn too great":    {of(2, 1), list(4), maxLsn + 1, api.ErrChange},
		"a page not valid":   {[]api.Page{leaf(2), {Id: 1, Right: 1}}, nil, 1, api.ErrChange},
		"the page 0":         {of(2, 0), nil, 1, api.ErrChange},
		"the page 401":       {of(401, 2), nil, 1, api.ErrChange},
		"a page no longer 0": {[]api.Page{at(0, leaf(1))}, nil, 1, api.OK},
	} {
		if e := makes(t, c.pages, c.gone, c.dsn); e != c.want {
			t.Errorf("%s: %v, not %v", name, e, c.want)
		}
	}
}

func TestMakeRandom(t *testing.T) {
	r := rand.New(rand.NewSource(172))
	seen := map[api.Errno]int{}
	for range 10000 {
		c := bent(r)
		r.Shuffle(len(c.Pages), func(i, j int) { c.Pages[i], c.Pages[j] = c.Pages[j], c.Pages[i] })
		r.Shuffle(len(c.Gone), func(i, j int) { c.Gone[i], c.Gone[j] = c.Gone[j], c.Gone[i] })
		seen[makes(t, c.Pages, c.Gone, uint64(r.Intn(20)))]++
	}
	if len(seen) != 2 || seen[api.OK] < 3000 || seen[api.ErrChange] < 1000 {
		t.Error(seen)
	}
}

// Many more pages and numbers than a change may have are sorted, and refused.
func TestMakeOfMany(t *testing.T) {
	pages, gone := slices.Repeat(of(3, 1, 2), 20000), slices.Repeat(list(9, 7, 8), 20000)
	for _, l := range [][]api.Page{of(1), pages} {
		if c, e := change.Make(l, gone, 7); e != api.ErrChange || !same(c, api.Change{}) {
			t.Errorf("%d pages: %v", len(l), e)
		}
	}
	if c, e := change.Make(pages, nil, 7); e != api.ErrChange || !same(c, api.Change{}) {
		t.Error(e)
	}
}

// Same is asked of any changes.
func TestSame(t *testing.T) {
	l := all()
	for _, a := range l {
		for _, b := range l {
			if got := change.Same(a, b); got != same(a, b) {
				t.Errorf("%s, %s: %v", told(a), told(b), got)
			}
		}
		if !change.Same(a, copyOf(a)) {
			t.Errorf("%s: not the same as a copy of it", told(a))
		}
	}
}

func TestSameEdges(t *testing.T) {
	turned := func(turn func(c *api.Change)) api.Change {
		c := made(list(8, 9), 1, 2)
		turn(&c)
		return c
	}
	if a, b := made(nil, 1), made([]uint64{}, 1); !change.Same(a, b) || !change.Same(b, a) {
		t.Error("no Gone")
	}
	if a, b := (api.Change{}), (api.Change{Pages: []api.Page{}, Gone: []uint64{}}); !change.Same(a, b) || !change.Same(b, a) {
		t.Error("nothing")
	}
	whole := turned(func(*api.Change) {})
	for name, c := range map[string]api.Change{
		"another Dsn":      turned(func(c *api.Change) { c.Pages[1].Dsn++ }),
		"another Id":       turned(func(c *api.Change) { c.Pages[1].Id++ }),
		"another Low":      turned(func(c *api.Change) { c.Pages[0].Low = "a" }),
		"another Set":      turned(func(c *api.Change) { c.Pages[0].Set.In[1]++ }),
		"another cell":     turned(func(c *api.Change) { c.Pages[1].Cells[1].Value = "" }),
		"a page less":      turned(func(c *api.Change) { c.Pages = c.Pages[:1] }),
		"a page more":      turned(func(c *api.Change) { c.Pages = append(c.Pages, leaf(3)) }),
		"no pages":         turned(func(c *api.Change) { c.Pages = nil }),
		"pages swapped":    turned(func(c *api.Change) { slices.Reverse(c.Pages) }),
		"another one gone": turned(func(c *api.Change) { c.Gone[1]++ }),
		"one less gone":    turned(func(c *api.Change) { c.Gone = c.Gone[:1] }),
		"one more gone":    turned(func(c *api.Change) { c.Gone = append(c.Gone, 10) }),
		"none gone":        turned(func(c *api.Change) { c.Gone = nil }),
		"gone swapped":     turned(func(c *api.Change) { slices.Reverse(c.Gone) }),
	} {
		if change.Same(whole, c) || change.Same(c, whole) {
			t.Error(name)
		}
	}
}

// P17.2

// gets holds Get of a string against what it is to return.
func gets(t *testing.T, s string) api.Errno {
	t.Helper()
	got, e := change.Get(s)
	want, wantE := plainGet(s)
	if e != wantE || !same(got, want) {
		t.Errorf("Get %.80x: %s, %v, not %s, %v", s, told(got), e, told(want), wantE)
	}
	return e
}

func TestBytes(t *testing.T) {
	c := api.Change{Pages: []api.Page{{Id: 1, Dsn: 7}, {Id: 258, Dsn: 7, Cells: row("a", "x")}}, Gone: list(2, 259)}
	one := "\x00\x00\x00\x01\x00\x00\x00\x00\x00\x00" + "\x00\x00\x00\x00\x00\x00\x00\x07" + "\x00\x00\x00\x00" + strings.Repeat("\x00", 10) + "\x00\x00"
	other, e := page.Put(c.Pages[1])
	if e != api.OK || other[:4] != "\x00\x00\x01\x02" {
		t.Fatalf("%v, %x", e, other)
	}
	want := "\x02" + "\x00\x00\x00\x22" + one + "\x00\x00\x00" + string(byte(len(other))) + other + "\x02" + "\x00\x00\x00\x02" + "\x00\x00\x01\x03"
	if got, e := change.Put(c); e != api.OK || got != want {
		t.Errorf("%x, %v, not %x", got, e, want)
	}
	if got, e := change.Get(want); e != api.OK || !same(got, c) {
		t.Errorf("%s, %v", told(got), e)
	}
}

func TestPut(t *testing.T) {
	for _, c := range right() {
		s, e := change.Put(c)
		if e != api.OK || s != plainBytes(c) {
			t.Errorf("%s: %.80x, %v, not %.80x", told(c), s, e, plainBytes(c))
		}
		if d, e := change.Get(s); e != api.OK || !same(c, d) {
			t.Errorf("%s: %s, %v", told(c), told(d), e)
		}
	}
	for name, c := range wrong() {
		if s, e := change.Put(c); e != api.ErrChange || s != "" {
			t.Errorf("%s: %.80x, %v", name, s, e)
		}
	}
}

func TestPutRandom(t *testing.T) {
	r := rand.New(rand.NewSource(173))
	seen := map[api.Errno]int{}
	for range 5000 {
		c := bent(r)
		s, e := change.Put(c)
		seen[e]++
		if e != wantCheck(c) || e == api.OK && s != plainBytes(c) || e != api.OK && s != "" {
			t.Errorf("%s: %.80x, %v", told(c), s, e)
		}
		if e == api.OK {
			gets(t, s)
		}
	}
	if len(seen) != 2 || seen[api.OK] < 1000 || seen[api.ErrChange] < 1000 {
		t.Error(seen)
	}
}

// many returns so many cells without values.
func many(n int) []api.Cell {
	l := make([]api.Cell, n)
	for i := range l {
		l[i].Key = fmt.Sprintf("%05d", i)
	}
	return l
}

func TestPutOfTooManyCells(t *testing.T) {
	full := api.Page{Id: 2, Dsn: 7, Cells: many(65536)}
	most := full
	most.Cells = most.Cells[:65535]
	for name, c := range map[string]struct {
		c    api.Change
		want api.Errno
	}{
		"as many as may be":                {api.Change{Pages: []api.Page{leaf(1), most}, Gone: list(3)}, api.OK},
		"one more":                         {api.Change{Pages: []api.Page{leaf(1), full}, Gone: list(3)}, api.ErrFull},
		"one more in front":                {api.Change{Pages: []api.Page{full, leaf(3)}}, api.ErrFull},
		"one more, and a page gone":        {api.Change{Pages: []api.Page{leaf(1), full}, Gone: list(2)}, api.ErrChange},
		"one more ahead of one of no Dsn":  {api.Change{Pages: []api.Page{full, at(0, leaf(3))}}, api.ErrChange},
		"one more ahead of one not valid":  {api.Change{Pages: []api.Page{full, {Id: 3, Dsn: 7, Right: 3}}}, api.ErrChange},
		"one more, and 401 gone":           {api.Change{Pages: []api.Page{full}, Gone: list(401)}, api.ErrChange},
		"one more, with Ids the wrong way": {api.Change{Pages: []api.Page{full, leaf(1)}}, api.ErrChange},
	} {
		s, e := change.Put(c.c)
		if e != c.want || e != api.OK && s != "" {
			t.Errorf("%s: %v, %d bytes", name, e, len(s))
		}
		if e == api.OK && (s != plainBytes(c.c) || gets(t, s) != api.OK) {
			t.Error(name)
		}
		if e := change.Check(c.c); c.want != api.ErrChange && e != api.OK {
			t.Errorf("%s: Check %v", name, e)
		}
	}
}

// What encodes a change that is not valid is refused.
func TestGetOfWrong(t *testing.T) {
	done := 0
	for name, c := range wrong() {
		c.Pages = c.Pages[:min(len(c.Pages), 255)]
		if slices.ContainsFunc(c.Pages, func(p api.Page) bool { return page.Check(p) != api.OK }) {
			continue
		}
		done++
		if name != "2^32 and 2 gone" && gets(t, plainBytes(c)) != api.ErrChange {
			t.Error(name)
		}
	}
	if done < 20 {
		t.Error(done)
	}
}

func TestGetEdges(t *testing.T) {
	one, _ := page.Put(leaf(1))
	text := func(s string) string { return string(binary.BigEndian.AppendUint32(nil, uint32(len(s)))) + s }
	for name, c := range map[string]struct {
		s    string
		want api.Errno
	}{
		"a change":                   {"\x01" + text(one) + "\x00", api.OK},
		"and one gone":               {"\x01" + text(one) + "\x01\x00\x00\x00\x02", api.OK},
		"and the last one gone":      {"\x01" + text(one) + "\x01\x00\x00\x01\x90", api.OK},
		"nothing":                    {"", api.ErrChange},
		"no pages":                   {"\x00\x00", api.ErrChange},
		"no pages, one gone":         {"\x00\x01\x00\x00\x00\x02", api.ErrChange},
		"one page, but none":         {"\x01", api.ErrChange},
		"an empty page":              {"\x01\x00\x00\x00\x00\x00", api.ErrChange},
		"no number of Gone":          {"\x01" + text(one), api.ErrChange},
		"a Gone too few":             {"\x01" + text(one) + "\x01", api.ErrChange},
		"half a Gone":                {"\x01" + text(one) + "\x01\x00\x00", api.ErrChange},
		"a Gone too many":            {"\x01" + text(one) + "\x00\x00\x00\x00\x02", api.ErrChange},
		"a byte too many":            {"\x01" + text(one) + "\x00\x00", api.ErrChange},
		"a page with a byte behind":  {"\x01" + text(one+"\x00") + "\x00", api.ErrChange},
		"a page without its end":     {"\x01" + text(one[:len(one)-1]) + "\x00", api.ErrChange},
		"a length one too small":     {"\x01" + text(one[:len(one)-1]) + one[len(one)-1:] + "\x00", api.ErrChange},
		"a length of 2^32 - 1":       {"\x01\xff\xff\xff\xff" + one + "\x00", api.ErrChange},
		"a length of 2^31":           {"\x01\x80\x00\x00\x00" + one + "\x00", api.ErrChange},
		"the count in two bytes":     {"\x00\x01" + text(one) + "\x00", api.ErrChange},
		"255 pages":                  {"\xff" + strings.Repeat(text(one), 255) + "\x00", api.ErrChange},
		"256 pages as none":          {"\x00" + strings.Repeat(text(one), 256) + "\x00", api.ErrChange},
		"257 pages as one":           {"\x01" + strings.Repeat(text(one), 257) + "\x00", api.ErrChange},
		"255 Gone":                   {"\x01" + text(one) + "\xff" + strings.Repeat("\x00\x00\x00\x02", 255), api.ErrChange},
		"255 pages, but none":        {"\xff", api.ErrChange},
		"the pages alone":            {text(one), api.ErrChange},
		"0 gone":                     {"\x01" + text(one) + "\x01\x00\x00\x00\x00", api.ErrChange},
		"401 gone":                   {"\x01" + text(one) + "\x01\x00\x00\x01\x91", api.ErrChange},
		"the page gone":              {"\x01" + text(one) + "\x01\x00\x00\x00\x01", api.ErrChange},
		"a great number gone":        {"\x01" + text(one) + "\x01\xff\xff\xff\xff", api.ErrChange},
		"the page twice":             {"\x02" + text(one) + text(one) + "\x00", api.ErrChange},
		"bytes of no page behind it": {"\x02" + text(one) + text("") + "\x00", api.ErrChange},
	} {
		if e := gets(t, c.s); e != c.want {
			t.Errorf("%s: %v, not %v", name, e, c.want)
		}
	}
}

// Of a valid change's bytes each beginning is refused, and so is what has a byte more; another byte makes another change or none.
func TestGetOfBent(t *testing.T) {
	r := rand.New(rand.NewSource(174))
	others := 0
	for _, c := range right() {
		s := plainBytes(c)
		for i := range s {
			if e := gets(t, s[:i]); e != api.ErrChange {
				t.Errorf("%d bytes of %x: %v", i, s, e)
			}
			b := []byte(s)
			b[i] ^= byte(1 + r.Intn(255)*r.Intn(2))
			if gets(t, string(b)) == api.OK {
				others++
			}
			gets(t, s[:i]+s[i+1:])
			gets(t, s[:i]+"\x00"+s[i:])
		}
		for _, more := range []string{"\x00", "x", "\xff", s} {
			if e := gets(t, s+more); e != api.ErrChange {
				t.Errorf("%x and %x: %v", s, more, e)
			}
		}
	}
	if others < 100 {
		t.Error(others)
	}
}

// P17.3

func numbers(t *testing.T, c api.Change) {
	t.Helper()
	var wantMost, wantNumber uint64
	if plainValid(c) {
		wantMost, wantNumber = plainMost(c), c.Pages[0].Dsn
	}
	if got := change.Most(c); got != wantMost {
		t.Errorf("Most of %s: %d, not %d", told(c), got, wantMost)
	}
	if got := change.Number(c); got != wantNumber {
		t.Errorf("Number of %s: %d, not %d", told(c), got, wantNumber)
	}
}

func TestMostAndNumber(t *testing.T) {
	for _, c := range all() {
		numbers(t, c)
	}
	r := rand.New(rand.NewSource(175))
	for range 5000 {
		numbers(t, bent(r))
	}
}

func TestMostAndNumberEdges(t *testing.T) {
	sets := func(sets ...api.Lsns) api.Change {
		var c api.Change
		for i, s := range sets {
			c.Pages = append(c.Pages, api.Page{Id: uint64(i + 1), Dsn: 9, Set: s})
		}
		return c
	}
	for name, c := range map[string]struct {
		c            api.Change
		most, number uint64
	}{
		"no operations":         {sets(set(0)), 0, 9},
		"a Low":                 {sets(set(3)), 3, 9},
		"a number above it":     {sets(set(3, 5, 8)), 8, 9},
		"of the first page":     {sets(set(3, 50), set(20), set(7, 8)), 50, 9},
		"of the second page":    {sets(set(3, 5), set(20), set(7, 8)), 20, 9},
		"of the last page":      {sets(set(3, 5), set(20), set(7, 8), set(0, 1, 88)), 88, 9},
		"the greatest":          {sets(set(3, maxLsn), set(20)), maxLsn, 9},
		"inner pages":           {api.Change{Pages: []api.Page{inner(1, 1), inner(2, 2)}}, 0, 7},
		"an inner page and one": {api.Change{Pages: []api.Page{inner(1, 1), leaf(2)}}, 11, 7},
		"what is gone":          {api.Change{Pages: []api.Page{at(1, leaf(1))}, Gone: list(400)}, 10, 1},
		"the greatest Dsn":      {api.Change{Pages: []api.Page{at(maxLsn, leaf(1))}}, 10, maxLsn},
		"no change":             {api.Change{}, 0, 0},
		"too great a number":    {sets(set(3, maxLsn+1), set(20)), 0, 0},
		"other Dsns":            {api.Change{Pages: []api.Page{leaf(1), at(6, leaf(2))}}, 0, 0},
		"a page gone":           {made(list(1), 1), 0, 0},
		"0 gone":                {made(list(0), 1), 0, 0},
		"five pages":            {made(nil, 1, 2, 3, 4, 5), 0, 0},
	} {
		if m, n := change.Most(c.c), change.Number(c.c); m != c.most || n != c.number {
			t.Errorf("%s: %d, %d, not %d, %d", name, m, n, c.most, c.number)
		}
	}
}

// P17.4

// applies holds Apply to a forest against what it is to return, and returns that.
func applies(t *testing.T, f []api.Page, c api.Change) []api.Page {
	t.Helper()
	got, e := change.Apply(f, c)
	want, wantE := plainApply(f, c)
	if e != wantE || !allAlike(got, want) {
		t.Errorf("Apply to %s of %s: %s, %v, not %s, %v", shows(f), told(c), shows(got), e, shows(want), wantE)
	}
	return got
}

func TestApplyEdges(t *testing.T) {
	// The pages that a change has are leaves with the Dsn 7; those of forests have other cells.
	old := func(dsn uint64, id uint64) api.Page { return api.Page{Id: id, Dsn: dsn, Cells: row("old", "o")} }
	c := made(list(2, 400), 1, 3)
	for name, w := range map[string]struct {
		f, want []api.Page
	}{
		"to nothing":              {nil, of(1, 3)},
		"to nothing of it":        {[]api.Page{old(9, 4), old(6, 399)}, []api.Page{leaf(1), leaf(3), old(9, 4), old(6, 399)}},
		"to older pages":          {[]api.Page{old(6, 1), old(0, 3)}, of(1, 3)},
		"to younger pages":        {[]api.Page{old(8, 1), old(maxLsn, 3)}, []api.Page{old(8, 1), old(maxLsn, 3)}},
		"to pages of the number":  {[]api.Page{old(7, 1), old(7, 3)}, []api.Page{old(7, 1), old(7, 3)}},
		"to an older one alone":   {[]api.Page{old(8, 1), old(6, 3)}, []api.Page{old(8, 1), leaf(3)}},
		"to one that is not last": {[]api.Page{old(6, 1), old(8, 3)}, []api.Page{leaf(1), old(8, 3)}},
		"older are gone":          {[]api.Page{old(6, 2), old(0, 400)}, of(1, 3)},
		"younger are not gone":    {[]api.Page{old(8, 2), old(most, 400)}, []api.Page{leaf(1), old(8, 2), leaf(3), old(most, 400)}},
		"of the number neither":   {[]api.Page{old(7, 2), old(7, 400)}, []api.Page{leaf(1), old(7, 2), leaf(3), old(7, 400)}},
		"one is gone":             {[]api.Page{old(6, 2), old(7, 400)}, []api.Page{leaf(1), leaf(3), old(7, 400)}},
		"the other one is gone":   {[]api.Page{old(7, 2), old(6, 400)}, []api.Page{leaf(1), old(7, 2), leaf(3)}},
		"older ones between":      {[]api.Page{old(1, 1), old(1, 2), old(1, 3), old(1, 4), old(1, 400)}, []api.Page{leaf(1), leaf(3), old(1, 4)}},
		"to no valid pages":       {[]api.Page{old(1, 0), old(maxLsn+1, 1), {Id: 2, Right: 2}, {Id: 5, Right: 5, Dsn: most}}, []api.Page{old(1, 0), old(maxLsn+1, 1), leaf(3), {Id: 5, Right: 5, Dsn: most}}},
		"to inner pages":          {[]api.Page{inner(1, 1), inner(3, 2), inner(400, 2)}, []api.Page{inner(1, 1), inner(3, 2), inner(400, 2)}},
		"to younger inner pages":  {[]api.Page{at(6, inner(1, 1)), at(5, inner(3, 2))}, of(1, 3)},
	} {
		if got := applies(t, w.f, c); !allAlike(got, w.want) {
			t.Errorf("%s: %s, not %s", name, shows(got), shows(w.want))
		}
	}
}

func TestApplyRandom(t *testing.T) {
	r := rand.New(rand.NewSource(176))
	for range 10000 {
		applies(t, forest(r), valid(r, uint64(1+r.Intn(9))))
	}
	for range 2000 {
		applies(t, forest(r), bent(r))
	}
}

func TestApplyOfWrong(t *testing.T) {
	for name, c := range wrong() {
		for _, f := range [][]api.Page{nil, of(1, 2, 3), {at(0, leaf(1)), at(8, leaf(2))}} {
			if got, e := change.Apply(f, c); e != api.ErrChange || got != nil {
				t.Errorf("%s: %s, %v", name, shows(got), e)
			}
		}
	}
}

// To what is no forest it ends.
func TestApplyToNoForest(t *testing.T) {
	for _, f := range [][]api.Page{of(2, 1), of(1, 1), of(3, 2, 3, 1), slices.Repeat(of(1, 2, 400), 5000), {at(1, leaf(1)), at(9, leaf(1))}} {
		for _, c := range all() {
			if _, e := change.Apply(f, c); e != wantCheck(c) {
				t.Errorf("%d pages, %s: %v", len(f), told(c), e)
			}
		}
	}
}

// P17.5

func TestSameBytes(t *testing.T) {
	var l []api.Change
	r := rand.New(rand.NewSource(177))
	for range 300 {
		l = append(l, valid(r, uint64(1+r.Intn(2))))
	}
	l = append(l, right()...)
	byBytes := map[string]api.Change{}
	for _, c := range l {
		s, e := change.Put(c)
		if e != api.OK {
			t.Errorf("%s: %v", told(c), e)
		}
		if d, is := byBytes[s]; is && !same(c, d) {
			t.Errorf("%s and %s have the same bytes", told(c), told(d))
		}
		byBytes[s] = c
	}
	for _, c := range l {
		again, _ := change.Put(copyOf(c))
		if d, is := byBytes[again]; !is || !same(c, d) {
			t.Errorf("%s has other bytes than an equal one", told(c))
		}
	}
}

func TestTwice(t *testing.T) {
	r := rand.New(rand.NewSource(178))
	for range 5000 {
		f, c := forest(r), valid(r, uint64(1+r.Intn(9)))
		once := applies(t, f, c)
		if twice := applies(t, once, c); !route.Same(once, twice) {
			t.Errorf("%s of %s: %s, then %s", shows(f), told(c), shows(once), shows(twice))
		}
	}
}

// apart returns the Ids of the pages that only one of two forests has, or that differ.
func apart(a, b []api.Page) []uint64 {
	var l []uint64
	for id := range uint64(maxId + 2) {
		p, is := route.At(a, id)
		q, too := route.At(b, id)
		if is != too || !alike(p, q) {
			l = append(l, id)
		}
	}
	return l
}

func TestFirstOneAgain(t *testing.T) {
	r := rand.New(rand.NewSource(179))
	changed := 0
	for range 5000 {
		n := uint64(1 + r.Intn(8))
		f, first, second := forest(r), valid(r, n), valid(r, n+1+uint64(r.Intn(3)))
		both := applies(t, applies(t, f, first), second)
		again := applies(t, both, first)
		for _, id := range apart(both, again) {
			changed++
			if !slices.Contains(second.Gone, id) {
				t.Errorf("%s, %s, %s: page %d", shows(f), told(first), told(second), id)
			}
		}
	}
	if changed < 300 {
		t.Error(changed)
	}
}

// A tree that is changed by changes alone.
type tree struct {
	f   []api.Page
	log []api.Change
}

// apply changes the tree to these pages, and without those that are gone.
func (g *tree) apply(t *testing.T, gone []uint64, made ...api.Page) {
	t.Helper()
	c, e := change.Make(made, gone, uint64(len(g.log)+1))
	if e != api.OK {
		t.Fatal(shows(made), gone, e)
	}
	g.log = append(g.log, c)
	g.f = applies(t, g.f, c)
}

// free returns a number that no page has, beginning with the smallest one.
func (g *tree) free(nth int) uint64 {
	id := uint64(1)
	for {
		if _, is := route.At(g.f, id); !is {
			if nth == 0 {
				return id
			}
			nth--
		}
		id++
	}
}

// grow puts a cell into the tree with the root 1, and splits the page that has it then if it is too full.
func (g *tree) grow(t *testing.T, key string) {
	t.Helper()
	walk, e := route.Find(g.f, 1, key, 0)
	if e != api.OK {
		t.Fatal(e)
	}
	p, _ := route.At(g.f, walk[len(walk)-1])
	p.Cells = append(p.Cells, row(key, "v")...)
	slices.SortFunc(p.Cells, func(a, b api.Cell) int { return strings.Compare(a.Key, b.Key) })
	g.apply(t, nil, p)
	switch {
	case len(p.Cells) < 7:
	case p.Id == 1:
		top, lower, upper, e := split.Grow(p, g.free(0), g.free(1), 1)
		if e != api.OK {
			t.Fatal(e)
		}
		g.apply(t, nil, upper, top, lower)
	default:
		lower, upper, e := split.Split(p, g.free(0), 1)
		if e != api.OK {
			t.Fatal(e)
		}
		g.apply(t, nil, upper, lower)
	}
}

// shrink joins a page to its left neighbour.
func (g *tree) shrink(t *testing.T, id uint64) {
	t.Helper()
	for _, lower := range g.f {
		if lower.Right != id {
			continue
		}
		upper, _ := route.At(g.f, id)
		p, e := merge.Join(lower, upper, 0, 1)
		if e != api.OK {
			t.Fatal(e)
		}
		g.apply(t, list(id), p)
	}
}

// redone is what becomes of a forest by the tree's changes, from one of them on.
func (g *tree) redone(f []api.Page, from int) []api.Page {
	for _, c := range g.log[from:] {
		f, _ = change.Apply(f, c)
	}
	return f
}

// A tree is made of nothing by its changes, and is as it was when any of them, and all those after it, are applied again.
func TestRedone(t *testing.T) {
	r := rand.New(rand.NewSource(180))
	g, gone := tree{}, 0
	g.apply(t, nil, api.Page{Id: 1})
	for range 200 {
		g.grow(t, fmt.Sprintf("%06d", r.Intn(1000000)))
		if open := route.Unposted(g.f, 1); len(open) > 0 && r.Intn(6) == 0 {
			g.shrink(t, open[r.Intn(len(open))])
			gone++
		}
	}
	if e := route.Check(g.f, 1); e != api.OK || len(g.f) < 20 || gone < 20 {
		t.Error(e, gone, shows(g.f))
	}
	for from := range g.log {
		if f := g.redone(g.f, from); !allAlike(f, g.f) {
			t.Fatalf("from %d on: %v", from, apart(f, g.f))
		}
	}
	if f := g.redone(nil, 0); !allAlike(f, g.f) {
		t.Errorf("from nothing on: %v", apart(f, g.f))
	}
}

// R5: what is handed in is neither changed nor shared, its spare capacity included.

// loose returns a list with something behind its end.
func loose[T any](l []T, behind T) []T { return append(slices.Clone(l), behind, behind)[:len(l)] }

// isLoose reports whether that is still there, and the list is as it was.
func isLoose[T any](l, was []T, equal func(a, b T) bool, behind T) bool {
	return slices.EqualFunc(l, was, equal) && slices.EqualFunc(l[len(l):len(l)+2], []T{behind, behind}, equal)
}

func is[T comparable](a, b T) bool { return a == b }

func behind() (api.Page, uint64, api.Cell) { return leaf(77), 78, api.Cell{Key: "79"} }

// spare returns pages whose lists, and they themselves, have something behind their ends.
func spare(f []api.Page) []api.Page {
	p, n, c := behind()
	l := loose(f, p)
	for i := range l {
		l[i].Set.In, l[i].Cells = loose(l[i].Set.In, n), loose(l[i].Cells, c)
	}
	return l
}

func isWhole(f, was []api.Page) bool {
	p, n, c := behind()
	for i := range was {
		if !isLoose(f[i].Set.In, was[i].Set.In, is, n) || !isLoose(f[i].Cells, was[i].Cells, is, c) {
			return false
		}
	}
	return isLoose(f, was, alike, p)
}

// spoil overwrites a list, with all of its capacity.
func spoil[T any](l []T) {
	var none T
	l = l[:cap(l)]
	for i := range l {
		l[i] = none
	}
}

func spoilAll(c api.Change) {
	for _, p := range c.Pages[:cap(c.Pages)] {
		spoil(p.Set.In)
		spoil(p.Cells)
	}
	spoil(c.Pages)
	spoil(c.Gone)
}

// calls are those of a change and a forest; the pages of Apply are told as those of a change.
func calls(c api.Change, f []api.Page) map[string]func() api.Change {
	none := api.Change{}
	return map[string]func() api.Change{
		"Check":  func() api.Change { change.Check(c); return none },
		"Most":   func() api.Change { change.Most(c); return none },
		"Number": func() api.Change { change.Number(c); return none },
		"Same":   func() api.Change { change.Same(c, c); return none },
		"Put":    func() api.Change { change.Put(c); return none },
		"Get":    func() api.Change { s, _ := change.Put(c); got, _ := change.Get(s); return got },
		"Make":   func() api.Change { got, _ := change.Make(c.Pages, c.Gone, 9); return got },
		"Make of a forest": func() api.Change {
			got, _ := change.Make(f, c.Gone, 9)
			return got
		},
		"Apply": func() api.Change { g, _ := change.Apply(f, c); return api.Change{Pages: g} },
		"Apply to itself": func() api.Change {
			g, _ := change.Apply(c.Pages, c)
			return api.Change{Pages: g}
		},
	}
}

// passed are a change and a forest each.
func passed() map[string]struct {
	c api.Change
	f []api.Page
} {
	return map[string]struct {
		c api.Change
		f []api.Page
	}{
		"to nothing":      {made(list(3), 1, 2), nil},
		"to older":        {made(list(3), 1, 2), []api.Page{at(1, leaf(1)), at(1, leaf(3)), at(1, leaf(4))}},
		"to younger":      {made(list(3), 1, 2), []api.Page{at(8, leaf(1)), at(8, leaf(2)), at(8, leaf(3))}},
		"inner pages":     {api.Change{Pages: []api.Page{inner(1, 1), inner(4, 1)}, Gone: list(9)}, []api.Page{at(1, inner(1, 1)), at(1, inner(2, 1)), at(9, inner(4, 1))}},
		"empty pages":     {api.Change{Pages: []api.Page{{Id: 1, Dsn: 7}, {Id: 3, Dsn: 7}}}, []api.Page{{Id: 2}, {Id: 3}}},
		"not in order":    {made(list(9, 7, 8), 3, 1, 2), of(4, 3, 1)},
		"not valid":       {made(list(1), 1), of(1, 2)},
		"with wrong ones": {made(list(3), 1, 2), []api.Page{{Id: 1, Right: 1, Cells: row("b", "x", "a", "y")}, {Id: 3, Level: 99, Set: set(4, 3, 2)}}},
	}
}

func TestNothingIsChanged(t *testing.T) {
	for name, w := range passed() {
		c, f := api.Change{Pages: spare(w.c.Pages), Gone: loose(w.c.Gone, 78)}, spare(w.f)
		for call, do := range calls(c, f) {
			spoilAll(do())
			if !isWhole(c.Pages, w.c.Pages) || !isLoose(c.Gone, w.c.Gone, is, 78) || !isWhole(f, w.f) {
				t.Fatalf("%s, %s: %s and %s", name, call, told(c), shows(f))
			}
		}
	}
}

// An answer does not hang on what earlier ones were used for, and no two lists of one are the same memory.
func TestAnswersApart(t *testing.T) {
	for name, w := range passed() {
		for call, do := range calls(w.c, w.f) {
			first := do()
			want := copyOf(first)
			spoilAll(do())
			if !same(first, want) || !same(do(), want) {
				t.Errorf("%s, %s: %s, not %s", name, call, told(do()), told(want))
			}
			for i := range first.Pages {
				spoil(first.Pages[i].Set.In)
				spoil(first.Pages[i].Cells)
				if rest := first.Pages[i+1:]; !allAlike(rest, want.Pages[i+1:]) {
					t.Errorf("%s, %s: page %d is also in %s", name, call, i, shows(rest))
				}
			}
		}
	}
}

// Pages that share lists as they are handed in do not do so afterwards.
func TestSharedLists(t *testing.T) {
	p := leaf(1)
	q := p
	q.Id = 2
	c, e := change.Make([]api.Page{p, q}, nil, 7)
	if e != api.OK {
		t.Fatal(e)
	}
	spoil(c.Pages[0].Cells)
	spoil(c.Pages[0].Set.In)
	f, e := change.Apply([]api.Page{p, q}, made(nil, 3))
	if e != api.OK {
		t.Fatal(e)
	}
	spoil(f[0].Cells)
	spoil(f[0].Set.In)
	if !alike(c.Pages[1], q) || !alike(f[1], q) || !alike(p, leaf(1)) {
		t.Error(told(c), shows(f))
	}
}

// The chapter's examples.
func TestExamples(t *testing.T) {
	c, e := change.Make([]api.Page{{Id: 2}, {Id: 1}}, nil, 7)
	if e != api.OK || change.Number(c) != 7 || change.Most(c) != 0 || !same(c, api.Change{Pages: []api.Page{{Id: 1, Dsn: 7}, {Id: 2, Dsn: 7}}}) {
		t.Errorf("Make: %s, %v", told(c), e)
	}
	for name, w := range map[string]struct {
		pages []api.Page
		gone  []uint64
		dsn   uint64
	}{
		"the page gone": {[]api.Page{{Id: 1}}, list(1), 7},
		"no pages":      {nil, list(2), 7},
		"the Dsn 0":     {[]api.Page{{Id: 1}}, nil, 0},
	} {
		if c, e := change.Make(w.pages, w.gone, w.dsn); e != api.ErrChange || !same(c, api.Change{}) {
			t.Errorf("%s: %s, %v", name, told(c), e)
		}
	}
	f, e := change.Apply([]api.Page{{Id: 1, Dsn: 8}}, api.Change{Pages: []api.Page{{Id: 1, Dsn: 7}}})
	if e != api.OK || !allAlike(f, []api.Page{{Id: 1, Dsn: 8}}) {
		t.Errorf("Apply: %s, %v", shows(f), e)
	}
}

package split_test

import (
	"encoding/binary"
	"fmt"
	"math"
	"math/rand"
	"slices"
	"strings"
	"testing"

	"lockkeeper/api"
	"lockkeeper/cells"
	"lockkeeper/page"
	"lockkeeper/route"
	"lockkeeper/split"
)

const (
	maxId    = 400
	maxLevel = 10
	maxLsn   = uint64(1) << 48
	most     = uint64(math.MaxUint64)
)

// kid is a page's number as eight bytes.
func kid(id uint64) string { return string(binary.BigEndian.AppendUint64(nil, id)) }

// row makes cells of keys and values by turns.
func row(words ...string) []api.Cell {
	var l []api.Cell
	for i := 0; i+1 < len(words); i += 2 {
		l = append(l, api.Cell{Key: words[i], Value: words[i+1]})
	}
	return l
}

// kids makes cells of keys, whose children are the pages from 101 on.
func kids(keys ...string) []api.Cell {
	var l []api.Cell
	for i, k := range keys {
		l = append(l, api.Cell{Key: k, Value: kid(uint64(101 + i))})
	}
	return l
}

// sized makes cells of these sizes, whose keys are a, b, c and so on.
func sized(sizes ...int) []api.Cell {
	var l []api.Cell
	for i, n := range sizes {
		l = append(l, api.Cell{Key: string(rune('a' + i)), Value: strings.Repeat("v", n-5)})
	}
	return l
}

func leaf(id uint64, low string, cells ...api.Cell) api.Page {
	return api.Page{Id: id, Low: low, Dsn: 44, Set: api.Lsns{Low: 3, In: []uint64{5, 7}}, Cells: cells}
}

func inner(id uint64, level uint8, cells ...api.Cell) api.Page {
	return api.Page{Id: id, Level: level, Low: cells[0].Key, Dsn: 44, Cells: cells}
}

func to(right uint64, p api.Page, high string) api.Page {
	p.Right, p.High, p.End = right, high, true
	return p
}

func long(last string) string { return strings.Repeat("k", 512-len(last)) + last }

func clone(p api.Page) api.Page {
	p.Set.In, p.Cells = slices.Clone(p.Set.In), slices.Clone(p.Cells)
	return p
}

// show is a page, of which not more is told than can be read.
func show(p api.Page) string {
	short := func(s string) string { return s[:min(len(s), 12)] }
	s := fmt.Sprintf("{%d level %d dsn %d %q to %q %v right %d set %v", p.Id, p.Level, p.Dsn, short(p.Low), short(p.High), p.End, p.Right, p.Set)
	for _, c := range p.Cells[:min(len(p.Cells), 8)] {
		s += fmt.Sprintf(" %q %q", short(c.Key), short(c.Value))
	}
	return s + fmt.Sprintf(", of %d}", len(p.Cells))
}

func shows(pages []api.Page) string {
	var l []string
	for _, p := range pages {
		l = append(l, show(p))
	}
	return strings.Join(l, "; ")
}

// alike reports whether two pages are equal, held against each other here.
func alike(a, b api.Page) bool {
	return slices.Equal(a.Set.In, b.Set.In) && slices.Equal(a.Cells, b.Cells) &&
		a.Id == b.Id && a.Right == b.Right && a.Level == b.Level && a.Low == b.Low && a.High == b.High && a.End == b.End && a.Dsn == b.Dsn && a.Set.Low == b.Set.Low
}

// told holds the pages and the error of a call against what is wanted; beside an error that is zero pages.
func told(t *testing.T, name string, got []api.Page, e api.Errno, want []api.Page, wantE api.Errno) {
	t.Helper()
	if wantE != api.OK {
		want = make([]api.Page, len(got))
	}
	if e != wantE || !slices.EqualFunc(got, want, alike) {
		t.Errorf("%s: %s, %v, not %s, %v", name, shows(got), e, shows(want), wantE)
	}
	for _, p := range got {
		if e == api.OK && page.Check(p) != api.OK {
			t.Errorf("%s: not valid: %s", name, show(p))
		}
	}
}

// parted is what Split returns, as a list.
func parted(p api.Page, id, dsn uint64) ([]api.Page, api.Errno) {
	lower, upper, e := split.Split(p, id, dsn)
	return []api.Page{lower, upper}, e
}

func raised(root api.Page, a, b, dsn uint64) ([]api.Page, api.Errno) {
	top, lower, upper, e := split.Grow(root, a, b, dsn)
	return []api.Page{top, lower, upper}, e
}

func posted(parent, child api.Page, dsn uint64) ([]api.Page, api.Errno) {
	p, e := split.Post(parent, child, dsn)
	return []api.Page{p}, e
}

// The chapter's Terms and Promises once more, as plainly as can be.

func plainSize(l []api.Cell) int {
	n := 0
	for _, c := range l {
		n += 4 + len(c.Key) + len(c.Value)
	}
	return n
}

func plainHalf(l []api.Cell) int {
	for n := 1; n < len(l); n++ {
		if 2*plainSize(l[:n]) >= plainSize(l) {
			return n
		}
	}
	return len(l) - 1
}

// plainCut tries all the prefixes.
func plainCut(a, b string) string {
	for n := range b {
		if b[:n] > a {
			return b[:n]
		}
	}
	return b
}

func plainParts(p api.Page, a, b, dsn uint64) (api.Page, api.Page) {
	n := plainHalf(p.Cells)
	at := p.Cells[n].Key
	if p.Level == 0 {
		at = plainCut(p.Cells[n-1].Key, at)
	}
	lower := api.Page{Id: a, Right: b, Level: p.Level, Low: p.Low, High: at, End: true, Dsn: dsn, Set: p.Set, Cells: p.Cells[:n]}
	upper := api.Page{Id: b, Right: p.Right, Level: p.Level, Low: at, High: p.High, End: p.End, Dsn: dsn, Set: p.Set, Cells: p.Cells[n:]}
	return lower, upper
}

func isId(id uint64) bool { return 1 <= id && id <= maxId }

func plainSplit(p api.Page, id, dsn uint64) ([]api.Page, api.Errno) {
	if page.Check(p) != api.OK || !isId(id) || id == p.Id || id == p.Right || dsn > maxLsn {
		return nil, api.ErrPage
	}
	if len(p.Cells) < 2 {
		return nil, api.ErrState
	}
	lower, upper := plainParts(p, p.Id, id, dsn)
	return []api.Page{lower, upper}, api.OK
}

func plainGrow(root api.Page, a, b, dsn uint64) ([]api.Page, api.Errno) {
	if page.Check(root) != api.OK || !isId(a) || !isId(b) || a == root.Id || b == root.Id || a == b || dsn > maxLsn {
		return nil, api.ErrPage
	}
	if root.Low != "" || root.End {
		return nil, api.ErrTree
	}
	if len(root.Cells) < 2 || root.Level == maxLevel {
		return nil, api.ErrState
	}
	lower, upper := plainParts(root, a, b, dsn)
	top := api.Page{Id: root.Id, Level: root.Level + 1, Dsn: dsn, Cells: row("", kid(a), upper.Low, kid(b))}
	return []api.Page{top, lower, upper}, api.OK
}

func plainPost(parent, child api.Page, dsn uint64) ([]api.Page, api.Errno) {
	if page.Check(parent) != api.OK || page.Check(child) != api.OK || child.Id == parent.Id || dsn > maxLsn {
		return nil, api.ErrPage
	}
	if int(parent.Level) != int(child.Level)+1 || child.Low < parent.Low || parent.End && child.Low >= parent.High {
		return nil, api.ErrTree
	}
	p := parent
	p.Dsn = dsn
	p.Cells = append(row(child.Low, kid(child.Id)), parent.Cells...)
	for _, c := range parent.Cells {
		if c.Key == child.Low {
			return nil, api.ErrThere
		}
	}
	slices.SortFunc(p.Cells, func(a, b api.Cell) int { return strings.Compare(a.Key, b.Key) })
	return []api.Page{p}, api.OK
}

// Pages and numbers that are passed.

func numbers() []uint64 {
	return []uint64{0, 1, 2, 5, 9, 399, 400, 401, 1<<32 + 2, maxLsn, most}
}

func dsns() []uint64 { return []uint64{0, 1, 44, maxLsn - 1, maxLsn, maxLsn + 1, most} }

// wrong returns pages that are not valid, most of which could be split, or posted, but for that.
func wrong() []api.Page {
	l := row("a", "x", "c", "y")
	k := kids("", "m", "t")
	lateInner := inner(1, 1, kids("b", "m")...)
	lateInner.Low = ""
	withSet := inner(1, 1, k...)
	withSet.Set.Low = 3
	tooLate := leaf(1, "", l...)
	tooLate.Dsn = maxLsn + 1
	tooHigh := inner(1, maxLevel, k...)
	tooHigh.Level++
	return []api.Page{
		{}, {Id: most, Cells: l}, leaf(0, "", l...), leaf(401, "", l...), tooLate, tooHigh, lateInner, withSet,
		{Id: 1, Right: 5, Cells: l}, {Id: 1, High: "m", Cells: l}, {Id: 1, High: "m", End: true, Cells: l},
		to(1, leaf(1, "", l...), "m"), to(401, leaf(1, "", l...), "m"), to(5, leaf(1, "", l...), "c"), to(5, leaf(1, "", l...), ""), leaf(1, "b", l...),
		leaf(1, "", row("c", "x", "a", "y")...), leaf(1, "", row("a", "x", "a", "y")...), leaf(1, "", row("a", strings.Repeat("v", 2049), "c", "y")...), leaf(1, "", row("a", "x", long("k")+"k", "y")...),
		{Id: 1, Set: api.Lsns{Low: 3, In: []uint64{3}}, Cells: l}, {Id: 1, Set: api.Lsns{Low: maxLsn + 1}, Cells: l}, {Id: 1, Set: api.Lsns{In: []uint64{maxLsn + 1}}, Cells: l},
		inner(1, 1, row("", kid(2), "m", kid(401))...), inner(1, 1, row("", kid(0), "m", kid(3))...), inner(1, 1, row("", kid(2), "m", "3")...), {Id: 1, Level: 1}, inner(1, 1, kids("", long("k")+"kk")...),
	}
}

// right returns valid pages: on all places and levels, with few cells and many.
func right() []api.Page {
	all := []api.Page{
		{Id: 1}, {Id: 400, Low: "m"}, leaf(2, ""), leaf(1, "", row("a", "x")...), to(5, leaf(1, ""), "m"), to(1, leaf(5, "m", row("m", "x")...), "p"),
		leaf(1, "", row("", "x", "qrs", "y")...), leaf(400, "", row("aa", "1", "ab", "2", "b", "3", "c", "4")...), to(2, leaf(9, "", row("a", "", "a\x00", "")...), "a\x00\x00"), to(400, leaf(1, "k", row("kb", "x", "kc", "y", "m", "z")...), "m\x00"),
		leaf(5, "m", row("m", "x", "mm", "y", "p", "z")...), leaf(2, "f"), leaf(5, "\xff\xff", row("\xff\xff\xff", "", "\xff\xff\xff\xff", "")...), leaf(1, "", row(long("a"), strings.Repeat("v", 2048), long("b"), strings.Repeat("v", 2048))...),
		{Id: 1, Set: api.Lsns{Low: maxLsn}, Dsn: maxLsn, Cells: row("a", "x", "b", "y")}, {Id: 1, Set: api.Lsns{Low: maxLsn - 2, In: []uint64{maxLsn}}, Cells: row("a", "x", "b", "y")},
	}
	for _, level := range []uint8{1, 2, 5, maxLevel - 1, maxLevel} {
		all = append(all, inner(1, level, kids("")...), inner(1, level, kids("", "m")...), inner(400, level, kids("", "d", "m")...), to(5, inner(1, level, kids("", "d", "m", "mm")...), "p"), to(1, inner(2, level, kids("d")...), "m"),
			inner(9, level, kids("d", "e\xff", "f")...), to(400, inner(399, level, kids("d", "f", long("k"), long("k")+"k")...), "z"), inner(2, level, kids(long("k")+"k")...), leaf(399, "b"), leaf(1, "zz"))
	}
	return all
}

// word makes a key of few different bytes.
func word(r *rand.Rand) string {
	b := make([]byte, r.Intn(6))
	for i := range b {
		b[i] = "\x00ab\xff"[r.Intn(4)]
	}
	return string(b)
}

// words returns some different ones in order.
func words(r *rand.Rand, n int) []string {
	var l []string
	for range n {
		l = append(l, word(r))
	}
	slices.Sort(l)
	return slices.Compact(l)
}

// someId returns a page's number; mostly one of a few.
func someId(r *rand.Rand) uint64 {
	if r.Intn(3) == 0 {
		return uint64(r.Intn(maxId)) + 1
	}
	return uint64(r.Intn(6)) + 1
}

// random makes a valid page with any cells.
func random(r *rand.Rand) api.Page {
	p := api.Page{Id: someId(r), Dsn: uint64(r.Intn(9))}
	all := words(r, 2+r.Intn(30))
	if r.Intn(2) == 0 {
		p.Low = all[0]
	}
	if r.Intn(2) == 0 && all[len(all)-1] > p.Low {
		p = to(p.Id%maxId+1, p, all[len(all)-1])
	}
	if r.Intn(2) == 0 {
		p.Level = uint8(r.Intn(maxLevel + 1))
	}
	if p.Level == 0 {
		p.Set = api.Lsns{Low: uint64(r.Intn(3)), In: []uint64{4, 6 + uint64(r.Intn(9))}}
	} else {
		p.Cells = row(p.Low, kid(someId(r)))
	}
	for _, k := range all {
		switch {
		case k < p.Low || p.End && k >= p.High:
		case p.Level == 0:
			p.Cells = append(p.Cells, row(k, strings.Repeat("v", r.Intn(4)*r.Intn(20)))...)
		case k > p.Low:
			p.Cells = append(p.Cells, row(k, kid(someId(r)))...)
		}
	}
	return p
}

// outcomes counts how often each error was told.
type outcomes map[api.Errno]int

// all checks that each of these, and nothing else, was told.
func (o outcomes) all(t *testing.T, errors ...api.Errno) {
	t.Helper()
	for _, e := range errors {
		if o[e] == 0 {
			t.Error("never", e)
		}
	}
	if len(o) != len(errors) {
		t.Error(o)
	}
}

// P15.1

// overs checks that the page, if it has enough cells and is valid, is too full up to all but the size of its cells.
func overs(t *testing.T, p api.Page) {
	t.Helper()
	can := page.Check(p) == api.OK && len(p.Cells) >= 2
	size := plainSize(p.Cells)
	for _, n := range []int{math.MinInt, -1, 0, 1, size - 1, size, size + 1, 8000, math.MaxInt} {
		if got, want := split.Over(p, n), can && size > n; got != want {
			t.Errorf("%s, %d: %v", show(p), n, got)
		}
	}
}

func TestOver(t *testing.T) {
	for _, p := range append(right(), wrong()...) {
		overs(t, p)
	}
	r := rand.New(rand.NewSource(151))
	for range 1000 {
		overs(t, random(r))
	}
}

func TestOverEdges(t *testing.T) {
	for name, c := range map[string]struct {
		p    api.Page
		most int
		want bool
	}{
		"two cells above":          {leaf(1, "", sized(10, 10)...), 19, true},
		"two cells at":             {leaf(1, "", sized(10, 10)...), 20, false},
		"two cells, nothing":       {leaf(1, "", sized(10, 10)...), 0, true},
		"two cells, below nothing": {leaf(1, "", sized(10, 10)...), math.MinInt, true},
		"two cells, any size":      {leaf(1, "", sized(10, 10)...), math.MaxInt, false},
		"one cell":                 {leaf(1, "", sized(2000)...), 8, false},
		"one cell, below nothing":  {leaf(1, "", sized(2000)...), -1, false},
		"no cells":                 {leaf(1, ""), -1, false},
		"an inner page above":      {inner(1, 1, kids("", "m")...), 24, true},
		"an inner page at":         {inner(1, 1, kids("", "m")...), 25, false},
		"one cell of an inner":     {inner(1, 1, kids("")...), 0, false},
		"the highest level":        {inner(1, maxLevel, kids("", "m")...), 24, true},
		"an upper bound is no end": {to(2, leaf(1, "a", sized(10, 10)...), "c"), 19, true},
		"not valid":                {leaf(401, "", sized(10, 10)...), 0, false},
		"a key too far":            {to(2, leaf(1, "", sized(10, 10)...), "b"), 0, false},
		"no page":                  {api.Page{}, -1, false},
	} {
		if got := split.Over(c.p, c.most); got != c.want {
			t.Errorf("%s: %v", name, got)
		}
	}
}

// P15.2

func splits(t *testing.T, p api.Page, id, dsn uint64) api.Errno {
	t.Helper()
	got, e := parted(p, id, dsn)
	want, wantE := plainSplit(p, id, dsn)
	told(t, fmt.Sprintf("Split %s, %d, %d", show(p), id, dsn), got, e, want, wantE)
	return e
}

func TestSplit(t *testing.T) {
	seen := outcomes{}
	for _, p := range append(right(), wrong()...) {
		for _, id := range append(numbers(), p.Id, p.Right) {
			for _, dsn := range dsns() {
				seen[splits(t, p, id, dsn)]++
			}
		}
	}
	seen.all(t, api.OK, api.ErrPage, api.ErrState)
}

func TestSplitRandom(t *testing.T) {
	r := rand.New(rand.NewSource(152))
	seen := outcomes{}
	for range 5000 {
		seen[splits(t, random(r), someId(r), uint64(r.Intn(99)))]++
	}
	seen.all(t, api.OK, api.ErrPage, api.ErrState)
}

// The half and the separator of pages are written out here.
func TestSplitEdges(t *testing.T) {
	for name, c := range map[string]struct {
		p  api.Page
		n  int
		at string
	}{
		"the empty key":                {leaf(1, "", row("", "x", "qrs", "y")...), 1, "q"},
		"a prefix":                     {leaf(1, "", row("ab", "x", "abcd", "y")...), 1, "abc"},
		"a byte 0 more":                {leaf(1, "", row("a", "x", "a\x00", "y")...), 1, "a\x00"},
		"the last byte":                {leaf(1, "", row("abc", "x", "abx", "y")...), 1, "abx"},
		"the first byte":               {leaf(1, "", row("abc", "x", "bcd", "y")...), 1, "b"},
		"behind bytes ff":              {leaf(1, "", row("a\xff\xff", "x", "b\x00\x00", "y")...), 1, "b"},
		"ahead of the first cell":      {leaf(1, "a", row("azz", "x", "bzz", "y")...), 1, "b"},
		"longest keys":                 {leaf(1, "", row(long("a"), "x", long("b"), "y")...), 1, long("b")},
		"up to the end":                {to(2, leaf(1, "a", row("a", "x", "ab", "y")...), "ab\x00"), 1, "ab"},
		"an inner page's keys are not": {inner(1, 1, kids("", "bcd")...), 1, "bcd"},
		"an inner page's longest keys": {inner(1, 1, kids("", long("k"), long("k")+"\x00")...), 2, long("k") + "\x00"},
		"the highest level":            {inner(1, maxLevel, kids("ccc", "czz", "dzz", "ezz")...), 2, "dzz"},
		"four like cells":              {leaf(1, "", sized(10, 10, 10, 10)...), 2, "c"},
		"three like cells":             {leaf(1, "", sized(10, 10, 10)...), 2, "c"},
		"half exactly":                 {leaf(1, "", sized(20, 10, 10)...), 1, "b"},
		"less than half":               {leaf(1, "", sized(19, 10, 10)...), 2, "c"},
		"the first is most":            {leaf(1, "", sized(40, 5, 5, 5)...), 1, "b"},
		"the last is most":             {leaf(1, "", sized(10, 10, 30)...), 2, "c"},
		"the last of two is most":      {leaf(1, "", sized(10, 2000)...), 1, "b"},
		"keys count":                   {leaf(1, "", row("a", "", "baaaaaaaaaaaaaaaaaaaa", "", "c", "", "d", "")...), 2, "c"},
	} {
		for _, id := range []uint64{3, 400} {
			for _, dsn := range []uint64{0, 9, maxLsn} {
				got, e := parted(c.p, id, dsn)
				lower, upper := c.p, c.p
				lower.Right, lower.High, lower.End, lower.Dsn, lower.Cells = id, c.at, true, dsn, c.p.Cells[:c.n]
				upper.Id, upper.Low, upper.Dsn, upper.Cells = id, c.at, dsn, c.p.Cells[c.n:]
				told(t, name, got, e, []api.Page{lower, upper}, api.OK)
			}
		}
	}
}

func TestSplitErrors(t *testing.T) {
	two := to(5, leaf(2, "", row("a", "x", "b", "y")...), "m")
	one := to(5, leaf(2, "", row("a", "x")...), "m")
	for name, c := range map[string]struct {
		p       api.Page
		id, dsn uint64
		want    api.Errno
	}{
		"no number":               {two, 0, 9, api.ErrPage},
		"the number 401":          {two, 401, 9, api.ErrPage},
		"a number far too great":  {two, 1<<32 + 3, 9, api.ErrPage},
		"the greatest number":     {two, most, 9, api.ErrPage},
		"its own":                 {two, 2, 9, api.ErrPage},
		"its Right":               {two, 5, 9, api.ErrPage},
		"no Right, and no number": {leaf(2, "", row("a", "x", "b", "y")...), 0, 9, api.ErrPage},
		"a Dsn too great":         {two, 3, maxLsn + 1, api.ErrPage},
		"the greatest Dsn":        {two, 3, most, api.ErrPage},
		"not valid":               {leaf(0, "", row("a", "x", "b", "y")...), 3, 9, api.ErrPage},
		"no page":                 {api.Page{}, 3, 9, api.ErrPage},
		"one cell":                {one, 3, 9, api.ErrState},
		"no cell":                 {leaf(2, ""), 3, 9, api.ErrState},
		"one cell of an inner":    {inner(2, 1, kids("")...), 3, 9, api.ErrState},
		"one cell and no number":  {one, 0, 9, api.ErrPage},
		"one cell and its own":    {one, 2, 9, api.ErrPage},
		"one cell and its Right":  {one, 5, 9, api.ErrPage},
		"one cell and its Dsn":    {one, 3, maxLsn + 1, api.ErrPage},
		"no cell, not valid":      {api.Page{Id: 401}, 3, 9, api.ErrPage},
		"the least number":        {two, 1, 0, api.OK},
		"the greatest of all":     {two, 400, maxLsn, api.OK},
	} {
		if _, _, e := split.Split(c.p, c.id, c.dsn); e != c.want {
			t.Errorf("%s: %v, not %v", name, e, c.want)
		}
	}
}

// P15.3

func grows(t *testing.T, p api.Page, a, b, dsn uint64) api.Errno {
	t.Helper()
	got, e := raised(p, a, b, dsn)
	want, wantE := plainGrow(p, a, b, dsn)
	told(t, fmt.Sprintf("Grow %s, %d, %d, %d", show(p), a, b, dsn), got, e, want, wantE)
	return e
}

func TestGrow(t *testing.T) {
	seen := outcomes{}
	for _, p := range append(right(), wrong()...) {
		ids := append(numbers(), p.Id, p.Right)
		for _, a := range ids {
			for _, b := range ids {
				seen[grows(t, p, a, b, 9)]++
			}
		}
		for _, dsn := range dsns() {
			seen[grows(t, p, 3, 4, dsn)]++
		}
	}
	seen.all(t, api.OK, api.ErrPage, api.ErrTree, api.ErrState)
}

func TestGrowRandom(t *testing.T) {
	r := rand.New(rand.NewSource(153))
	seen := outcomes{}
	for range 5000 {
		seen[grows(t, random(r), someId(r), someId(r), uint64(r.Intn(99)))]++
	}
	seen.all(t, api.OK, api.ErrPage, api.ErrTree, api.ErrState)
}

func TestGrowEdges(t *testing.T) {
	set := api.Lsns{Low: 3, In: []uint64{5, 7}}
	for name, c := range map[string]struct {
		p         api.Page
		a, b, dsn uint64
		want      []api.Page
	}{
		"a leaf": {leaf(1, "", row("aa", "1", "ab", "2", "bcd", "3", "c", "4")...), 2, 3, 9, []api.Page{
			{Id: 1, Level: 1, Dsn: 9, Cells: row("", kid(2), "b", kid(3))},
			{Id: 2, Right: 3, High: "b", End: true, Dsn: 9, Set: set, Cells: row("aa", "1", "ab", "2")},
			{Id: 3, Low: "b", Dsn: 9, Set: set, Cells: row("bcd", "3", "c", "4")},
		}},
		"greater numbers first": {leaf(7, "", row("", "1", "c", "2")...), 400, 1, 0, []api.Page{
			{Id: 7, Level: 1, Cells: row("", kid(400), "c", kid(1))},
			{Id: 400, Right: 1, High: "c", End: true, Set: set, Cells: row("", "1")},
			{Id: 1, Low: "c", Set: set, Cells: row("c", "2")},
		}},
		"to the highest level": {inner(400, 9, kids("", "abc", "bcd")...), 3, 2, maxLsn, []api.Page{
			{Id: 400, Level: 10, Dsn: maxLsn, Cells: row("", kid(3), "bcd", kid(2))},
			{Id: 3, Right: 2, Level: 9, High: "bcd", End: true, Dsn: maxLsn, Cells: kids("", "abc")},
			{Id: 2, Level: 9, Low: "bcd", Dsn: maxLsn, Cells: row("bcd", kid(103))},
		}},
	} {
		got, e := raised(c.p, c.a, c.b, c.dsn)
		told(t, name, got, e, c.want, api.OK)
	}
}

func TestGrowErrors(t *testing.T) {
	two := row("n", "x", "o", "y")
	root := leaf(2, "", two...)
	ended := to(5, leaf(2, "", two...), "p")
	late := leaf(2, "m", two...)
	high := inner(2, maxLevel, kids("", "m")...)
	for name, c := range map[string]struct {
		p         api.Page
		a, b, dsn uint64
		want      api.Errno
	}{
		"no first number":              {root, 0, 3, 9, api.ErrPage},
		"no second number":             {root, 3, 0, 9, api.ErrPage},
		"the first 401":                {root, 401, 3, 9, api.ErrPage},
		"the second 401":               {root, 3, 401, 9, api.ErrPage},
		"the first far too great":      {root, 1<<32 + 4, 3, 9, api.ErrPage},
		"the second far too great":     {root, 3, most, 9, api.ErrPage},
		"the first is the root":        {root, 2, 3, 9, api.ErrPage},
		"the second is the root":       {root, 3, 2, 9, api.ErrPage},
		"one number twice":             {root, 3, 3, 9, api.ErrPage},
		"none twice":                   {root, 0, 0, 9, api.ErrPage},
		"a Dsn too great":              {root, 3, 4, maxLsn + 1, api.ErrPage},
		"not valid":                    {leaf(401, "", two...), 3, 4, 9, api.ErrPage},
		"no page":                      {api.Page{}, 3, 4, 9, api.ErrPage},
		"an end":                       {ended, 3, 4, 9, api.ErrTree},
		"a late beginning":             {late, 3, 4, 9, api.ErrTree},
		"both":                         {to(5, late, "p"), 3, 4, 9, api.ErrTree},
		"an end, no number":            {ended, 0, 4, 9, api.ErrPage},
		"an end, one twice":            {ended, 3, 3, 9, api.ErrPage},
		"an end, a Dsn too great":      {ended, 3, 4, maxLsn + 1, api.ErrPage},
		"an end, the first its Right":  {ended, 5, 4, 9, api.ErrTree},
		"an end, the second its Right": {ended, 3, 5, 9, api.ErrTree},
		"a late beginning, no number":  {late, 3, 0, 9, api.ErrPage},
		"an end, one cell":             {to(5, leaf(2, "", row("n", "x")...), "p"), 3, 4, 9, api.ErrTree},
		"a late beginning, no cell":    {leaf(2, "m"), 3, 4, 9, api.ErrTree},
		"an end, the highest level":    {to(5, high, "p"), 3, 4, 9, api.ErrTree},
		"late on the highest level":    {inner(2, maxLevel, kids("m", "n")...), 3, 4, 9, api.ErrTree},
		"no cell":                      {leaf(2, ""), 3, 4, 9, api.ErrState},
		"one cell":                     {leaf(2, "", row("n", "x")...), 3, 4, 9, api.ErrState},
		"one child":                    {inner(2, 1, kids("")...), 3, 4, 9, api.ErrState},
		"one cell, no number":          {leaf(2, "", row("n", "x")...), 3, 0, 9, api.ErrPage},
		"the highest level":            {high, 3, 4, 9, api.ErrState},
		"one child up there":           {inner(2, maxLevel, kids("")...), 3, 4, 9, api.ErrState},
		"the highest, one twice":       {high, 3, 3, 9, api.ErrPage},
		"the highest, a Dsn too great": {high, 3, 4, most, api.ErrPage},
		"below the highest level":      {inner(2, maxLevel-1, kids("", "m")...), 3, 4, 9, api.OK},
		"least and greatest numbers":   {root, 400, 1, maxLsn, api.OK},
	} {
		if _, _, _, e := split.Grow(c.p, c.a, c.b, c.dsn); e != c.want {
			t.Errorf("%s: %v, not %v", name, e, c.want)
		}
	}
}

// P15.4

func posts(t *testing.T, parent, child api.Page, dsn uint64) api.Errno {
	t.Helper()
	got, e := posted(parent, child, dsn)
	want, wantE := plainPost(parent, child, dsn)
	told(t, fmt.Sprintf("Post %s, %s, %d", show(parent), show(child), dsn), got, e, want, wantE)
	return e
}

func TestPost(t *testing.T) {
	seen := outcomes{}
	all := append(right(), wrong()...)
	for _, parent := range all {
		for _, child := range all {
			for _, dsn := range dsns() {
				seen[posts(t, parent, child, dsn)]++
			}
		}
	}
	seen.all(t, api.OK, api.ErrPage, api.ErrTree, api.ErrThere)
}

func TestPostRandom(t *testing.T) {
	r := rand.New(rand.NewSource(154))
	seen := outcomes{}
	for range 20000 {
		parent, child := random(r), random(r)
		if parent.Level > 0 && r.Intn(4) > 0 {
			child = leaf(someId(r), word(r))
			if parent.Level--; parent.Level > 0 {
				child = inner(child.Id, parent.Level, row(child.Low, kid(7))...)
			}
			parent.Level++
		}
		seen[posts(t, parent, child, uint64(r.Intn(99)))]++
	}
	seen.all(t, api.OK, api.ErrPage, api.ErrTree, api.ErrThere)
}

func TestPostEdges(t *testing.T) {
	parent := to(5, inner(2, 1, kids("b", "d", "m")...), "q")
	last := inner(2, 1, kids("", "d")...)
	high := inner(2, maxLevel, kids("", "d")...)
	other := leaf(401, "f")
	for name, c := range map[string]struct {
		parent, child api.Page
		dsn           uint64
		at            int
		want          api.Errno
	}{
		"in between":                  {parent, leaf(9, "f"), 4, 2, api.OK},
		"behind the first":            {parent, leaf(9, "b\x00"), 4, 1, api.OK},
		"at the end":                  {parent, leaf(400, "p\xff\xff"), 0, 3, api.OK},
		"behind all, without an end":  {last, leaf(1, "\xff\xff"), maxLsn, 2, api.OK},
		"with an end and cells":       {parent, to(8, leaf(9, "f", row("fa", "x")...), "g"), 4, 2, api.OK},
		"a child that ends far off":   {parent, leaf(9, "n"), 4, 3, api.OK},
		"a child that has none":       {last, leaf(9, "c"), 4, 1, api.OK},
		"a child that is its Right":   {parent, leaf(5, "f"), 4, 2, api.OK},
		"a child that is there":       {last, leaf(102, "e"), 4, 2, api.OK},
		"the longest Low":             {last, leaf(9, long("k")+"k"), 4, 2, api.OK},
		"on the highest level":        {high, inner(9, maxLevel-1, kids("c", "cc")...), 4, 1, api.OK},
		"its first key":               {parent, leaf(9, "b"), 4, 0, api.ErrThere},
		"its last key":                {parent, leaf(9, "m"), 4, 0, api.ErrThere},
		"the empty key":               {last, leaf(9, ""), 4, 0, api.ErrThere},
		"the child itself":            {parent, leaf(102, "d"), 4, 0, api.ErrThere},
		"ahead of the parent":         {parent, leaf(9, "a\xff"), 4, 0, api.ErrTree},
		"the empty Low":               {parent, leaf(9, ""), 4, 0, api.ErrTree},
		"at the parent's High":        {parent, leaf(9, "q"), 4, 0, api.ErrTree},
		"behind the parent":           {parent, leaf(9, "z"), 4, 0, api.ErrTree},
		"a child of its level":        {last, inner(9, 1, kids("f")...), 4, 0, api.ErrTree},
		"a child of a higher level":   {last, inner(9, 2, kids("f")...), 4, 0, api.ErrTree},
		"a child of the highest":      {high, inner(9, maxLevel, kids("f")...), 4, 0, api.ErrTree},
		"a child two levels below":    {inner(2, 2, kids("", "d")...), leaf(9, "f"), 4, 0, api.ErrTree},
		"a child far below":           {high, leaf(9, "f"), 4, 0, api.ErrTree},
		"a leaf as a parent":          {leaf(2, "", row("a", "x")...), leaf(9, "f"), 4, 0, api.ErrTree},
		"a leaf below nothing":        {leaf(2, ""), inner(9, maxLevel, kids("f")...), 4, 0, api.ErrTree},
		"its first key, two below":    {inner(2, 2, kids("", "d")...), leaf(9, "d"), 4, 0, api.ErrTree},
		"its own child":               {parent, leaf(2, "f"), 4, 0, api.ErrPage},
		"itself":                      {parent, parent, 4, 0, api.ErrPage},
		"its own, ahead of it":        {parent, leaf(2, "a"), 4, 0, api.ErrPage},
		"its own, there already":      {parent, leaf(2, "m"), 4, 0, api.ErrPage},
		"a Dsn too great":             {parent, leaf(9, "f"), maxLsn + 1, 0, api.ErrPage},
		"a Dsn too great, there":      {parent, leaf(9, "m"), most, 0, api.ErrPage},
		"a Dsn too great, behind":     {parent, leaf(9, "z"), maxLsn + 1, 0, api.ErrPage},
		"a child that is not valid":   {parent, other, 4, 0, api.ErrPage},
		"a parent that is not valid":  {inner(401, 1, kids("", "d")...), leaf(9, "f"), 4, 0, api.ErrPage},
		"a parent without cells":      {api.Page{Id: 2, Level: 1}, leaf(9, "f"), 4, 0, api.ErrPage},
		"not valid, and behind":       {parent, leaf(0, "z"), 4, 0, api.ErrPage},
		"no pages":                    {api.Page{}, api.Page{}, 0, 0, api.ErrPage},
		"a child above the levels":    {leaf(2, ""), api.Page{Id: 9, Level: 255, Cells: kids("")}, 4, 0, api.ErrPage},
		"a parent above all, not one": {api.Page{Id: 2, Level: 11, Cells: kids("")}, inner(9, 10, kids("f")...), 4, 0, api.ErrPage},
	} {
		want := clone(c.parent)
		if c.want == api.OK {
			want.Dsn, want.Cells = c.dsn, slices.Insert(want.Cells, c.at, row(c.child.Low, kid(c.child.Id))...)
		}
		got, e := posted(c.parent, c.child, c.dsn)
		told(t, name, got, e, []api.Page{want}, c.want)
	}
}

// P15.5

// growing is a forest that is built from one leaf on, by the plain calls.
type growing struct {
	r    *rand.Rand
	f    []api.Page
	root uint64
	free []uint64
}

func begun(r *rand.Rand) *growing {
	g := &growing{r: r}
	for _, n := range r.Perm(maxId) {
		g.free = append(g.free, uint64(n)+1)
	}
	g.root = g.id()
	g.f = []api.Page{leaf(g.root, "")}
	return g
}

// id takes a free number.
func (g *growing) id() uint64 {
	id := g.free[0]
	g.free = g.free[1:]
	return id
}

// step changes a random page: a leaf's cells, or its parts take its place, or it is posted.
func (g *growing) step() {
	p := g.f[g.r.Intn(len(g.f))]
	switch n := g.r.Intn(8); {
	case n < 5 && p.Level == 0:
		if c := word(g.r); c >= p.Low && (!p.End || c < p.High) {
			p.Cells, _ = cells.Put(p.Cells, api.Cell{Key: c, Value: word(g.r)})
			g.put(p)
		}
	case n == 5 && p.Id == g.root && p.Level < maxLevel && len(p.Cells) > 1:
		pages, _ := plainGrow(p, g.id(), g.id(), 9)
		g.put(pages...)
	case n == 6 && p.Id != g.root && len(p.Cells) > 1:
		pages, _ := plainSplit(p, g.id(), 9)
		g.put(pages...)
	case n == 7 && slices.Contains(route.Unposted(g.f, g.root), p.Id):
		pages, _ := plainPost(g.parent(p), p, 9)
		g.put(pages...)
	}
}

// parent returns the page of the level above whose range contains the page's Low.
func (g *growing) parent(child api.Page) api.Page {
	for _, p := range g.f {
		if p.Level == child.Level+1 && p.Low <= child.Low && (!p.End || child.Low < p.High) {
			return p
		}
	}
	return api.Page{}
}

func (g *growing) put(pages ...api.Page) { g.f = g.after(pages...) }

// after returns the forest with the pages in place of those with their Ids.
func (g *growing) after(pages ...api.Page) []api.Page {
	f := g.f
	for _, p := range pages {
		f = route.Put(f, p)
	}
	return f
}

// keeps checks that a forest is valid for the same root, has the same cells, and these pages that are not posted.
func (g *growing) keeps(t *testing.T, name string, f []api.Page, unposted []uint64) {
	t.Helper()
	slices.Sort(unposted)
	if e := route.Check(f, g.root); e != api.OK {
		t.Errorf("%s: %v: root %d, %s", name, e, g.root, shows(f))
	}
	if !slices.Equal(route.Cells(f, g.root), route.Cells(g.f, g.root)) {
		t.Errorf("%s: cells %v, not %v", name, route.Cells(f, g.root), route.Cells(g.f, g.root))
	}
	if got := route.Unposted(f, g.root); !slices.Equal(got, unposted) {
		t.Errorf("%s: not posted are %v, not %v: root %d, %s", name, got, unposted, g.root, shows(f))
	}
}

// splitsAll splits each page of the forest, grows its root and posts each page that is not posted, each time from the same forest on.
func (g *growing) splitsAll(t *testing.T, done map[string]int) {
	t.Helper()
	open := route.Unposted(g.f, g.root)
	for _, p := range g.f {
		name := fmt.Sprintf("%d of %s", p.Id, shows(g.f))
		a, b := g.free[0], g.free[1]
		if top, lower, upper, e := split.Grow(p, a, b, 7); e == api.OK && p.Id == g.root {
			g.keeps(t, "Grow "+name, g.after(top, lower, upper), open)
			done["Grow"]++
		}
		if lower, upper, e := split.Split(p, a, 7); e == api.OK && p.Id != g.root {
			g.keeps(t, "Split "+name, g.after(lower, upper), append([]uint64{a}, open...))
			done["Split"]++
		}
		if q, e := split.Post(g.parent(p), p, 7); slices.Contains(open, p.Id) {
			if e != api.OK {
				t.Errorf("Post %s: %v", name, e)
			}
			g.keeps(t, "Post "+name, g.after(q), slices.DeleteFunc(slices.Clone(open), func(id uint64) bool { return id == p.Id }))
			done["Post"]++
		} else if e == api.OK {
			t.Errorf("Post %s, which is posted: %s", name, show(q))
		}
	}
}

func TestForests(t *testing.T) {
	r := rand.New(rand.NewSource(155))
	done, levels := map[string]int{}, map[uint8]int{}
	for range 150 {
		g := begun(r)
		for range r.Intn(400) {
			g.step()
		}
		top, _ := route.At(g.f, g.root)
		levels[top.Level]++
		g.splitsAll(t, done)
	}
	if done["Grow"] < 50 || done["Split"] < 500 || done["Post"] < 200 || len(levels) < 4 {
		t.Error(done, levels)
	}
}

// A tree becomes as high as it may by these calls alone.
func TestForestToTheHighestLevel(t *testing.T) {
	r := rand.New(rand.NewSource(156))
	g := begun(r)
	g.put(leaf(g.root, "", row("a", "1", "b", "2", "c", "3", "d", "4")...))
	for level := range uint8(maxLevel) {
		root, _ := route.At(g.f, g.root)
		if root.Level != level {
			t.Fatal(root.Level, "not", level)
		}
		pages, e := raised(root, g.id(), g.id(), uint64(level))
		g.keeps(t, "Grow", g.after(pages...), nil)
		if e != api.OK {
			t.Fatal(level, e)
		}
		g.put(pages...)
	}
	root, _ := route.At(g.f, g.root)
	if _, _, _, e := split.Grow(root, g.id(), g.id(), 9); e != api.ErrState {
		t.Error(e)
	}
	g.splitsAll(t, map[string]int{})
}

// A page that was split off is found through its left neighbour until it is posted, for each of its keys.
func TestFoundThroughTheLeft(t *testing.T) {
	root := inner(1, 1, row("", kid(2))...)
	all := leaf(2, "", row("aa", "1", "ab", "2", "b", "3", "c", "4")...)
	lower, upper, e := split.Split(all, 3, 9)
	if e != api.OK {
		t.Fatal(e)
	}
	f := []api.Page{root, lower, upper}
	walk := func(name, key string, want ...uint64) {
		t.Helper()
		if got, e := route.Find(f, 1, key, 0); e != api.OK || !slices.Equal(got, want) {
			t.Errorf("%s, %q: %v, %v, not %v", name, key, got, e, want)
		}
	}
	walk("split", "aa", 1, 2)
	walk("split", "ab\xff", 1, 2)
	walk("split", "b", 1, 2, 3)
	walk("split", "z", 1, 2, 3)
	if f[0], e = split.Post(root, upper, 10); e != api.OK {
		t.Fatal(e)
	}
	walk("posted", "ab\xff", 1, 2)
	walk("posted", "b", 1, 3)
	walk("posted", "z", 1, 3)
}

// P15.6

// asked returns the keys that are to be asked of a page: its bounds and keys, and what is next to them.
func asked(p api.Page) []string {
	var all []string
	near := func(k string) {
		all = append(all, k, k+"\x00", k+"\xff\xff")
		if k != "" {
			all = append(all, k[:len(k)-1], k[:len(k)-1]+string([]byte{k[len(k)-1] - 1, 255}))
		}
	}
	near(p.Low)
	near(p.High)
	for _, c := range p.Cells {
		near(c.Key)
	}
	return append(all, "", "\xff\xff\xff\xff\xff\xff\xff")
}

// shares checks that the parts have, for each key of their ranges, what the page had, and its Set; and that each key of its range is in one of them.
func shares(t *testing.T, p api.Page, parts ...api.Page) {
	t.Helper()
	in := func(q api.Page, key string) bool { return q.Low <= key && (!q.End || key < q.High) }
	for _, q := range parts {
		if len(q.Cells) == 0 || q.Set.Low != p.Set.Low || !slices.Equal(q.Set.In, p.Set.In) || q.Level != p.Level {
			t.Errorf("%s: %s", show(p), show(q))
		}
	}
	for _, key := range asked(p) {
		had, is := cells.Find(p.Cells, key)
		child, e := page.Child(p, key)
		n := 0
		for _, q := range parts {
			if !in(q, key) {
				continue
			}
			n++
			if has, still := cells.Find(q.Cells, key); has != had || still != is {
				t.Errorf("%s: %q is %q, %v, not %q, %v: %s", show(p), key, has, still, had, is, show(q))
			}
			if c, f := page.Child(q, key); c != child || f != e {
				t.Errorf("%s: the child of %q is %d, %v, not %d, %v: %s", show(p), key, c, f, child, e, show(q))
			}
		}
		if want := in(p, key); n > 1 || (n == 1) != want {
			t.Errorf("%s: %q is in %d of %s", show(p), key, n, shows(parts))
		}
	}
}

func TestPartsShareThePage(t *testing.T) {
	r := rand.New(rand.NewSource(157))
	all := right()
	for range 2000 {
		all = append(all, random(r))
	}
	done := 0
	for _, p := range all {
		if lower, upper, e := split.Split(p, p.Id%(maxId-1)+2, 9); e == api.OK {
			shares(t, p, lower, upper)
			done++
		}
		if _, lower, upper, e := split.Grow(p, p.Id%(maxId-2)+2, p.Id%(maxId-2)+3, 9); e == api.OK {
			shares(t, p, lower, upper)
			done++
		}
	}
	if done < 1000 {
		t.Error(done)
	}
}

// R5: what is handed in is neither changed nor shared, its spare capacity included.

// spare returns a page whose lists have something behind their ends.
func spare(p api.Page) api.Page {
	p.Set.In = append(slices.Clone(p.Set.In), 77, 78)[:len(p.Set.In)]
	p.Cells = append(slices.Clone(p.Cells), row("spare", "1", "spare", "2")...)[:len(p.Cells)]
	return p
}

// isWhole reports whether what spare made of a page is still all there.
func isWhole(p, of api.Page) bool {
	in, l := len(p.Set.In), len(p.Cells)
	return alike(p, of) && slices.Equal(p.Set.In[in:in+2], []uint64{77, 78}) && slices.Equal(p.Cells[l:l+2], row("spare", "1", "spare", "2"))
}

// spoil overwrites a list, with all of its capacity.
func spoil[T any](l []T) {
	var none T
	for i := range l[:cap(l)] {
		l[:cap(l)][i] = none
	}
}

func spoilPage(p api.Page) {
	spoil(p.Set.In)
	spoil(p.Cells)
}

// pairs are pages to be split or to grow, and such as may be posted in them.
func pairs() map[string][2]api.Page {
	return map[string][2]api.Page{
		"a leaf":        {leaf(1, "", row("a", "x", "b", "y", "c", "z")...), leaf(9, "f")},
		"a leaf alone":  {api.Page{Id: 1, Cells: row("a", "x", "b", "y")}, leaf(9, "f")},
		"an inner page": {inner(1, 1, kids("", "d", "m")...), leaf(9, "f", row("fa", "x")...)},
		"at the end":    {inner(1, 1, kids("", "d", "m")...), leaf(9, "z")},
		"one above":     {inner(1, 2, kids("", "d")...), inner(9, 1, kids("b", "c")...)},
		"there already": {inner(1, 1, kids("", "d")...), leaf(9, "d")},
		"too few":       {inner(1, 1, kids("")...), leaf(9, "d")},
	}
}

// calls are those of a page and another one.
func calls(p, q api.Page) map[string]func() []api.Page {
	return map[string]func() []api.Page{
		"Over":  func() []api.Page { split.Over(p, 9); return nil },
		"Split": func() []api.Page { l, _ := parted(p, 2, 9); return l },
		"Grow":  func() []api.Page { l, _ := raised(p, 2, 3, 9); return l },
		"Post":  func() []api.Page { l, _ := posted(p, q, 9); return l },
	}
}

func TestNothingIsChanged(t *testing.T) {
	for name, pair := range pairs() {
		p, q := spare(pair[0]), spare(pair[1])
		for call, of := range calls(p, q) {
			for _, got := range of() {
				spoilPage(got)
			}
			if !isWhole(p, pair[0]) || !isWhole(q, pair[1]) {
				t.Fatalf("%s of %s: %s and %s", call, name, show(p), show(q))
			}
		}
	}
}

// No two lists of an answer share memory, nor an answer with a later one.
func TestAnswersApart(t *testing.T) {
	for name, pair := range pairs() {
		for call, of := range calls(spare(pair[0]), spare(pair[1])) {
			got := of()
			var want []api.Page
			for _, p := range got {
				want = append(want, clone(p))
			}
			for i := range got {
				// To grow one list must not be seen in another one.
				_, _ = append(got[i].Cells, row("new", "x", "new", "y")...), append(got[i].Set.In, 5, 6)
				if !slices.EqualFunc(got, want, alike) {
					t.Errorf("%s of %s: %s", call, name, shows(got))
				}
			}
			for i := range got {
				spoilPage(got[i])
				if !slices.EqualFunc(got[i+1:], want[i+1:], alike) {
					t.Errorf("%s of %s: %s", call, name, shows(got[i+1:]))
				}
			}
			if !slices.EqualFunc(of(), want, alike) {
				t.Errorf("%s of %s: again", call, name)
			}
		}
	}
}

// The chapter's examples.
func TestExamples(t *testing.T) {
	p := api.Page{Id: 1, Cells: row("aa", "1", "ab", "2", "b", "3", "c", "4")}
	got, e := parted(p, 2, 9)
	told(t, "Split", got, e, []api.Page{
		{Id: 1, Right: 2, High: "b", End: true, Dsn: 9, Cells: row("aa", "1", "ab", "2")},
		{Id: 2, Low: "b", Dsn: 9, Cells: row("b", "3", "c", "4")},
	}, api.OK)
	got, e = raised(p, 2, 3, 9)
	told(t, "Grow", got, e, []api.Page{
		{Id: 1, Level: 1, Dsn: 9, Cells: row("", kid(2), "b", kid(3))},
		{Id: 2, Right: 3, High: "b", End: true, Dsn: 9, Cells: row("aa", "1", "ab", "2")},
		{Id: 3, Low: "b", Dsn: 9, Cells: row("b", "3", "c", "4")},
	}, api.OK)
	got, e = posted(inner(1, 1, kids("", "b")...), leaf(9, "b"), 9)
	told(t, "Post", got, e, nil, api.ErrThere)
}

package merge_test

import (
	"encoding/binary"
	"fmt"
	"math"
	"math/rand"
	"slices"
	"strings"
	"testing"

	"lockkeeper/api"
	"lockkeeper/cells"
	"lockkeeper/lsns"
	"lockkeeper/merge"
	"lockkeeper/page"
	"lockkeeper/route"
	"lockkeeper/split"
)

const (
	maxId    = 400
	maxLevel = 10
	maxIn    = 1000
	maxLsn   = uint64(1) << 48
	most     = uint64(math.MaxUint64)
)

// kid is a page's number as eight bytes.
func kid(id uint64) string { return string(binary.BigEndian.AppendUint64(nil, id)) }

// row makes cells of keys and values by turns.
func row(words ...string) []api.Cell {
	var l []api.Cell
	for i := 0; i+1 < len(words); i += 2 {
		l = append(l, api.Cell{Key: words[i], Value: words[i+1]})
	}
	return l
}

// kids makes cells of keys, whose children are the pages from 101 on.
func kids(keys ...string) []api.Cell {
	var l []api.Cell
	for i, k := range keys {
		l = append(l, api.Cell{Key: k, Value: kid(uint64(101 + i))})
	}
	return l
}

// set makes a Set of its Low and the numbers above it.
func set(low uint64, in ...uint64) api.Lsns { return api.Lsns{Low: low, In: in} }

// span returns the numbers from one to another one.
func span(from, to uint64) []uint64 {
	var l []uint64
	for n := from; n <= to; n++ {
		l = append(l, n)
	}
	return l
}

func leaf(id uint64, low string, cells ...api.Cell) api.Page {
	return api.Page{Id: id, Low: low, Dsn: 44, Set: set(3, 5, 7), Cells: cells}
}

func inner(id uint64, level uint8, cells ...api.Cell) api.Page {
	return api.Page{Id: id, Level: level, Low: cells[0].Key, Dsn: 44, Cells: cells}
}

func to(right uint64, p api.Page, high string) api.Page {
	p.Right, p.High, p.End = right, high, true
	return p
}

func with(s api.Lsns, p api.Page) api.Page {
	p.Set = s
	return p
}

func long(last string) string { return strings.Repeat("k", 512-len(last)) + last }

func clone(p api.Page) api.Page {
	p.Set.In, p.Cells = slices.Clone(p.Set.In), slices.Clone(p.Cells)
	return p
}

// show is a page, of which not more is told than can be read.
func show(p api.Page) string {
	short := func(s string) string { return s[:min(len(s), 12)] }
	s := fmt.Sprintf("{%d level %d dsn %d %q to %q %v right %d set %d %v", p.Id, p.Level, p.Dsn, short(p.Low), short(p.High), p.End, p.Right, p.Set.Low, p.Set.In[:min(len(p.Set.In), 8)])
	for _, c := range p.Cells[:min(len(p.Cells), 8)] {
		s += fmt.Sprintf(" %q %q", short(c.Key), short(c.Value))
	}
	return s + fmt.Sprintf(", %d of %d}", len(p.Set.In), len(p.Cells))
}

func shows(pages []api.Page) string {
	var l []string
	for _, p := range pages {
		l = append(l, show(p))
	}
	return strings.Join(l, "; ")
}

// alike reports whether two pages are equal, held against each other here.
func alike(a, b api.Page) bool {
	return slices.Equal(a.Set.In, b.Set.In) && slices.Equal(a.Cells, b.Cells) &&
		a.Id == b.Id && a.Right == b.Right && a.Level == b.Level && a.Low == b.Low && a.High == b.High && a.End == b.End && a.Dsn == b.Dsn && a.Set.Low == b.Set.Low
}

// told holds the page and the error of a call against what is wanted; beside an error that is the zero page.
func told(t *testing.T, name string, got api.Page, e api.Errno, want api.Page, wantE api.Errno) {
	t.Helper()
	if wantE != api.OK {
		want = api.Page{}
	}
	if e != wantE || !alike(got, want) {
		t.Errorf("%s: %s, %v, not %s, %v", name, show(got), e, show(want), wantE)
	}
	if e == api.OK && page.Check(got) != api.OK {
		t.Errorf("%s: not valid: %s", name, show(got))
	}
}

// The chapter's Terms and Promises once more, as plainly as can be.

func areValid(p, q api.Page) bool { return page.Check(p) == api.OK && page.Check(q) == api.OK }

func plainBeside(lower, upper api.Page) bool {
	return areValid(lower, upper) && lower.Level == upper.Level && lower.Right == upper.Id && lower.High == upper.Low && upper.Right != lower.Id
}

func plainSize(lists ...[]api.Cell) int {
	n := 0
	for _, l := range lists {
		for _, c := range l {
			n += 4 + len(c.Key) + len(c.Value)
		}
	}
	return n
}

func plainUnpost(parent, child api.Page, dsn uint64) (api.Page, api.Errno) {
	if !areValid(parent, child) || dsn > maxLsn {
		return api.Page{}, api.ErrPage
	}
	if int(parent.Level) != int(child.Level)+1 {
		return api.Page{}, api.ErrTree
	}
	for i, c := range parent.Cells {
		switch {
		case c.Key != child.Low || c.Value != kid(child.Id):
		case i == 0:
			return api.Page{}, api.ErrState
		default:
			p := clone(parent)
			p.Dsn, p.Cells = dsn, slices.Delete(p.Cells, i, i+1)
			return p, api.OK
		}
	}
	return api.Page{}, api.ErrNone
}

// plainUnion tries all the numbers that either Set has above low.
func plainUnion(a, b api.Lsns, low uint64) api.Lsns {
	all := slices.Concat(a.In, b.In)
	all = slices.DeleteFunc(all, func(n uint64) bool { return n <= low })
	slices.Sort(all)
	return api.Lsns{Low: low, In: slices.Compact(all)}
}

func plainJoin(lower, upper api.Page, low, dsn uint64) (api.Page, api.Errno) {
	if !areValid(lower, upper) || low > maxLsn || dsn > maxLsn {
		return api.Page{}, api.ErrPage
	}
	if !plainBeside(lower, upper) {
		return api.Page{}, api.ErrTree
	}
	p := api.Page{Id: lower.Id, Right: upper.Right, Level: lower.Level, Low: lower.Low, High: upper.High, End: upper.End, Dsn: dsn}
	p.Cells = append(append(p.Cells, lower.Cells...), upper.Cells...)
	if p.Level > 0 {
		return p, api.OK
	}
	if lower.Set.Low > low || upper.Set.Low > low {
		return api.Page{}, api.ErrState
	}
	p.Set = plainUnion(lower.Set, upper.Set, low)
	if len(p.Set.In) > maxIn {
		return api.Page{}, api.ErrFull
	}
	return p, api.OK
}

// Pages and numbers that are passed.

func dsns() []uint64 { return []uint64{0, 1, 44, maxLsn - 1, maxLsn, maxLsn + 1, most} }

func lows() []uint64 { return []uint64{0, 2, 3, 5, 6, 7, 8, maxLsn, maxLsn + 1, most} }

// wrong returns pages that are not valid, most of which would be next to one of right, or posted in one, but for that.
func wrong() []api.Page {
	l := row("m", "x", "n", "y")
	lateInner := inner(2, 1, kids("n", "p")...)
	lateInner.Low = "m"
	withSet := with(set(3), inner(2, 1, kids("m", "t")...))
	tooLate := leaf(2, "m", l...)
	tooLate.Dsn = maxLsn + 1
	tooHigh := inner(2, maxLevel, kids("m", "t")...)
	tooHigh.Level++
	return []api.Page{
		{}, {Id: most, Low: "m", Cells: l}, leaf(0, "m", l...), leaf(401, "m", l...), tooLate, tooHigh, lateInner, withSet,
		{Id: 1, Right: 2, Cells: l}, {Id: 1, High: "m", Cells: l}, {Id: 1, High: "m", End: true},
		to(1, leaf(1, ""), "m"), to(401, leaf(1, ""), "m"), to(2, leaf(1, "", l...), "m"), to(2, leaf(1, ""), ""), leaf(2, "n", l...),
		leaf(2, "m", row("n", "x", "m", "y")...), leaf(2, "m", row("m", "x", "m", "y")...), leaf(2, "m", row("m", strings.Repeat("v", 2049))...), leaf(2, "", row(long("k")+"k", "y")...),
		with(set(3, 3), leaf(2, "m", l...)), with(set(maxLsn+1), leaf(2, "m", l...)), with(set(0, maxLsn+1), leaf(2, "m", l...)), with(set(0, span(1, maxIn+1)...), leaf(2, "m", l...)),
		inner(1, 1, row("", kid(2), "m", kid(401))...), inner(1, 1, row("", kid(0), "m", kid(3))...), inner(1, 1, row("", kid(2), "m", "3")...), {Id: 1, Level: 1}, inner(1, 1, kids("", long("k")+"kk")...),
	}
}

// right returns valid pages: many are next to each other, or posted in each other.
func right() []api.Page {
	all := []api.Page{
		{Id: 1}, {Id: 400, Low: "m"}, leaf(2, ""), leaf(2, "m"), leaf(1, "", row("a", "x")...),
		to(2, leaf(1, ""), "m"), to(2, leaf(1, "", row("a", "x", "l\xff", "y")...), "m"), to(400, leaf(1, "b", row("c", "x")...), "m"), with(set(4), to(2, leaf(1, ""), "n")),
		leaf(2, "m", row("m", "x", "n", "y")...), to(5, leaf(2, "m", row("n", "x")...), "p"), to(1, leaf(2, "m", row("n", "x")...), "p"), with(set(6, 8), to(400, leaf(2, "m"), "t")), to(2, leaf(400, "m"), "p"),
		to(102, leaf(101, ""), "m"), to(103, leaf(102, "m", row("n", "x")...), "t"), leaf(103, "t", row("z", "y")...), leaf(102, "t"), leaf(101, "m"),
		with(set(0, maxLsn), to(2, leaf(1, ""), "m")), with(set(maxLsn), leaf(2, "m")),
	}
	for _, level := range []uint8{1, 2, maxLevel - 1, maxLevel} {
		all = append(all, inner(1, level, kids("")...), inner(3, level, kids("", "m", "t")...), inner(400, level, kids("m", "t")...), inner(102, level, kids("m", "n")...), inner(103, level, kids("t", "u")...),
			to(2, inner(1, level, kids("", "b")...), "m"), inner(2, level, kids("m")...), to(1, inner(2, level, kids("m", "n")...), "p"), to(400, inner(2, level, kids("m", "n")...), "p"), inner(101, level, kids("")...))
	}
	return all
}

// word makes a key of few different bytes.
func word(r *rand.Rand) string {
	b := make([]byte, r.Intn(6))
	for i := range b {
		b[i] = "\x00ab\xff"[r.Intn(4)]
	}
	return string(b)
}

// words returns some different ones in order.
func words(r *rand.Rand, n int) []string {
	var l []string
	for range n {
		l = append(l, word(r))
	}
	slices.Sort(l)
	return slices.Compact(l)
}

// someId returns a page's number; mostly one of a few.
func someId(r *rand.Rand) uint64 {
	if r.Intn(3) == 0 {
		return uint64(r.Intn(maxId)) + 1
	}
	return uint64(r.Intn(6)) + 1
}

// someSet makes a Set of small numbers; now and then so many that two of them are often too many.
func someSet(r *rand.Rand) api.Lsns {
	n, among := r.Intn(9), 20
	if r.Intn(4) == 0 {
		n, among = 300+r.Intn(500), 4000
	}
	s := set(uint64(r.Intn(6)))
	for _, k := range r.Perm(among)[:n] {
		if uint64(k) > s.Low {
			s.In = append(s.In, uint64(k))
		}
	}
	slices.Sort(s.In)
	return s
}

// made makes a page, which is valid if its range and Right are, with any cells of these keys.
func made(r *rand.Rand, level uint8, rg api.Range, right uint64, keys []string) api.Page {
	p := api.Page{Id: someId(r), Right: right, Level: level, Low: rg.From, High: rg.To, End: rg.End, Dsn: uint64(r.Intn(9))}
	if level == 0 {
		p.Set = someSet(r)
	} else {
		p.Cells = row(p.Low, kid(someId(r)))
	}
	for _, k := range keys {
		switch {
		case k < p.Low || p.End && k >= p.High:
		case level == 0:
			p.Cells = append(p.Cells, row(k, strings.Repeat("v", r.Intn(4)*r.Intn(20)))...)
		case k > p.Low:
			p.Cells = append(p.Cells, row(k, kid(someId(r)))...)
		}
	}
	return p
}

// neighbours makes two pages that are mostly adjacent: they are but for one thing in half of the cases, and for their numbers in some.
func neighbours(r *rand.Rand) (api.Page, api.Page) {
	all := words(r, 3+r.Intn(30))
	if len(all) < 3 {
		all = []string{"", "a", "b"}
	}
	low, mid, high := all[0], all[len(all)/2], all[len(all)-1]
	level := uint8(r.Intn(maxLevel+3)) / 2 % (maxLevel + 1)
	upper := made(r, level, api.Range{From: mid}, 0, all)
	if r.Intn(2) == 0 {
		upper = made(r, level, api.Range{From: mid, To: high, End: true}, someId(r), all)
	}
	lower := made(r, level, api.Range{From: low, To: mid, End: true}, upper.Id, all)
	switch r.Intn(12) {
	case 0:
		lower.Right = someId(r)
	case 1:
		lower.Right, lower.High, lower.End = 0, "", false
	case 2:
		lower.High = high
	case 3:
		upper.Id = someId(r)
	case 4:
		upper.Right = lower.Id
	case 5:
		upper = made(r, level, api.Range{From: high}, 0, all)
		upper.Id = lower.Right
	case 6:
		upper = made(r, uint8(r.Intn(maxLevel+2)), api.Range{From: mid}, 0, all)
		upper.Id = lower.Right
	}
	return lower, upper
}

// family makes a page and one that is mostly posted in it.
func family(r *rand.Rand) (api.Page, api.Page) {
	all := words(r, 3+r.Intn(10))
	level := uint8(r.Intn(maxLevel) + 1)
	parent := made(r, level, api.Range{From: all[0]}, 0, all)
	c := parent.Cells[r.Intn(len(parent.Cells))]
	child := made(r, level-1, api.Range{From: c.Key}, 0, words(r, 5))
	child.Id, _ = page.Id(c.Value)
	switch r.Intn(8) {
	case 0:
		child.Id = someId(r)
	case 1:
		child = made(r, level-1, api.Range{From: word(r)}, 0, nil)
	case 2:
		child = made(r, uint8(r.Intn(maxLevel+1)), api.Range{From: c.Key}, 0, nil)
	case 3:
		parent.Right = someId(r)
	}
	return parent, child
}

// outcomes counts how often each error was told.
type outcomes map[api.Errno]int

// all checks that each of these, and nothing else, was told.
func (o outcomes) all(t *testing.T, errors ...api.Errno) {
	t.Helper()
	for _, e := range errors {
		if o[e] == 0 {
			t.Error("never", e)
		}
	}
	if len(o) != len(errors) {
		t.Error(o)
	}
}

// P16.1

// besides checks Beside, and Under around the size of the cells of both.
func besides(t *testing.T, lower, upper api.Page) bool {
	t.Helper()
	want := plainBeside(lower, upper)
	if got := merge.Beside(lower, upper); got != want {
		t.Errorf("Beside %s, %s: %v", show(lower), show(upper), got)
	}
	size := plainSize(lower.Cells, upper.Cells)
	for _, n := range []int{math.MinInt, -1, 0, 1, plainSize(lower.Cells), plainSize(upper.Cells), size - 1, size, size + 1, math.MaxInt} {
		if got := merge.Under(lower, upper, n); got != (want && size <= n) {
			t.Errorf("Under %s, %s, %d: %v", show(lower), show(upper), n, got)
		}
	}
	return want
}

func TestBeside(t *testing.T) {
	seen := map[bool]int{}
	all := append(right(), wrong()...)
	for _, lower := range all {
		for _, upper := range all {
			seen[besides(t, lower, upper)]++
		}
	}
	if seen[true] < 20 {
		t.Error(seen)
	}
}

func TestBesideRandom(t *testing.T) {
	r := rand.New(rand.NewSource(161))
	seen := map[bool]int{}
	for range 5000 {
		lower, upper := neighbours(r)
		seen[besides(t, lower, upper)]++
		besides(t, upper, lower)
		besides(t, lower, lower)
	}
	if seen[true] < 1000 || seen[false] < 1000 {
		t.Error(seen)
	}
}

func TestBesideEdges(t *testing.T) {
	a := to(2, leaf(1, "", row("a", "x")...), "m")
	b := leaf(2, "m", row("n", "y")...)
	up := to(2, inner(1, 1, kids("", "d")...), "m")
	for name, c := range map[string]struct {
		lower, upper api.Page
		want         bool
	}{
		"next":                           {a, b, true},
		"with an end":                    {a, to(3, b, "p"), true},
		"far from the beginning":         {to(400, leaf(399, "l\xff"), "m"), to(1, leaf(400, "m"), "m\x00"), true},
		"without cells":                  {to(2, leaf(1, ""), "m"), leaf(2, "m"), true},
		"with other Sets":                {with(set(9), a), with(set(2, 5), b), true},
		"the longest bound":              {to(2, leaf(1, ""), long("k")+"k"), leaf(2, long("k")+"k"), true},
		"inner pages":                    {up, inner(2, 1, kids("m")...), true},
		"on the highest level":           {to(2, inner(1, maxLevel, kids("")...), "m"), inner(2, maxLevel, kids("m")...), true},
		"the other way round":            {b, a, false},
		"the same":                       {a, a, false},
		"a level below":                  {up, b, false},
		"a level above":                  {a, inner(2, 1, kids("m")...), false},
		"two levels above":               {up, inner(2, 3, kids("m")...), false},
		"another Right":                  {to(3, a, "m"), b, false},
		"another one in its place":       {a, leaf(3, "m"), false},
		"no Right":                       {leaf(1, ""), b, false},
		"no Right, and from the same on": {leaf(1, ""), leaf(2, ""), false},
		"a gap":                          {a, leaf(2, "m\x00"), false},
		"keys of both":                   {a, leaf(2, "l"), false},
		"from the same on":               {a, leaf(2, ""), false},
		"a ring":                         {a, to(1, b, "p"), false},
		"a ring of inner pages":          {up, to(1, inner(2, 1, kids("m")...), "p"), false},
		"a ring, the other way round":    {to(1, b, "p"), a, false},
		"the lower one is not valid":     {to(2, leaf(1, "", row("m", "x")...), "m"), b, false},
		"the upper one is not valid":     {a, leaf(2, "m", row("a", "x")...), false},
		"the lower one's number":         {to(2, leaf(0, ""), "m"), b, false},
		"the upper one's number":         {to(401, leaf(1, ""), "m"), leaf(401, "m"), false},
		"no pages":                       {api.Page{}, api.Page{}, false},
	} {
		if got := merge.Beside(c.lower, c.upper); got != c.want {
			t.Errorf("%s: %v", name, got)
		}
		if got := merge.Under(c.lower, c.upper, math.MaxInt); got != c.want {
			t.Errorf("%s: Under: %v", name, got)
		}
		if merge.Under(c.lower, c.upper, -1) {
			t.Errorf("%s: Under less than nothing", name)
		}
	}
}

func TestUnderEdges(t *testing.T) {
	none := to(2, leaf(1, ""), "m")
	six := to(2, leaf(1, "", row("a", "x")...), "m")
	many := leaf(2, "m", row("mm", strings.Repeat("v", 2048), "n", "")...)
	for name, c := range map[string]struct {
		lower, upper api.Page
		size         int
	}{
		"nothing":             {none, leaf(2, "m"), 0},
		"the lower one alone": {six, leaf(2, "m"), 6},
		"the upper one alone": {none, many, 2059},
		"both":                {six, many, 2065},
		"inner pages":         {to(2, inner(1, 1, kids("", "d")...), "m"), inner(2, 1, kids("m")...), 38},
	} {
		for n, want := range map[int]bool{c.size - 1: false, c.size: true, c.size + 1: true} {
			if got := merge.Under(c.lower, c.upper, n); got != want {
				t.Errorf("%s, %d: %v", name, n, got)
			}
		}
	}
}

// P16.2

func unposts(t *testing.T, parent, child api.Page, dsn uint64) api.Errno {
	t.Helper()
	got, e := merge.Unpost(parent, child, dsn)
	want, wantE := plainUnpost(parent, child, dsn)
	told(t, fmt.Sprintf("Unpost %s, %s, %d", show(parent), show(child), dsn), got, e, want, wantE)
	return e
}

func TestUnpost(t *testing.T) {
	seen := outcomes{}
	all := append(right(), wrong()...)
	for _, parent := range all {
		for _, child := range all {
			for _, dsn := range dsns() {
				seen[unposts(t, parent, child, dsn)]++
			}
		}
	}
	seen.all(t, api.OK, api.ErrPage, api.ErrTree, api.ErrNone, api.ErrState)
}

func TestUnpostRandom(t *testing.T) {
	r := rand.New(rand.NewSource(162))
	seen := outcomes{}
	for range 10000 {
		parent, child := family(r)
		seen[unposts(t, parent, child, uint64(r.Intn(99)))]++
	}
	seen.all(t, api.OK, api.ErrPage, api.ErrTree, api.ErrNone, api.ErrState)
}

func TestUnpostEdges(t *testing.T) {
	parent := to(5, inner(2, 1, kids("b", "d", "m")...), "q")
	high := inner(2, maxLevel, kids("", "d")...)
	twice := inner(2, 1, row("", kid(7), "d", kid(9), "m", kid(9))...)
	wide := inner(2, 1, row("", kid(1), "k", kid(400), long("k")+"k", kid(9))...)
	other := leaf(102, "d", row("a", "x")...)
	for name, c := range map[string]struct {
		parent, child api.Page
		dsn           uint64
		at            int
		want          api.Errno
	}{
		"in between":                      {parent, leaf(102, "d"), 4, 1, api.OK},
		"the last":                        {parent, leaf(103, "m"), 0, 2, api.OK},
		"with cells and an end":           {parent, to(103, leaf(102, "d", row("d", "x", "e", "y")...), "m"), maxLsn, 1, api.OK},
		"an end that is not the next one": {parent, to(8, leaf(102, "d"), "dd"), 4, 1, api.OK},
		"an end far behind":               {parent, leaf(102, "d"), 4, 1, api.OK},
		"all but the first":               {inner(2, 1, kids("", "d")...), leaf(102, "d"), 4, 1, api.OK},
		"on the highest level":            {high, inner(102, maxLevel-1, kids("d", "e")...), 4, 1, api.OK},
		"a child twice, by its Low":       {twice, leaf(9, "d"), 4, 1, api.OK},
		"a child twice, by the other":     {twice, leaf(9, "m"), 4, 2, api.OK},
		"the greatest number":             {wide, leaf(400, "k"), 4, 1, api.OK},
		"the longest Low":                 {wide, leaf(9, long("k")+"k"), 4, 2, api.OK},
		"its own number":                  {inner(2, 1, row("", kid(7), "d", kid(2))...), leaf(2, "d"), 4, 1, api.OK},
		"its Right":                       {to(5, inner(2, 1, row("", kid(7), "d", kid(5))...), "m"), leaf(5, "d"), 4, 1, api.OK},
		"the first":                       {parent, leaf(101, "b"), 4, 0, api.ErrState},
		"the first of the empty key":      {high, inner(101, maxLevel-1, kids("")...), 4, 0, api.ErrState},
		"the only one":                    {inner(2, 1, kids("d")...), leaf(101, "d"), 4, 0, api.ErrState},
		"the first child, under another":  {inner(2, 1, row("", kid(7), "d", kid(7))...), leaf(7, ""), 4, 0, api.ErrState},
		"another child of the first key":  {parent, leaf(102, "b"), 4, 0, api.ErrNone},
		"another child of the key":        {parent, leaf(103, "d"), 4, 0, api.ErrNone},
		"no child of the key":             {parent, leaf(9, "d"), 4, 0, api.ErrNone},
		"its child under another key":     {parent, leaf(102, "m"), 4, 0, api.ErrNone},
		"its child under no key":          {parent, leaf(102, "e"), 4, 0, api.ErrNone},
		"its first child, another key":    {parent, leaf(101, "c"), 4, 0, api.ErrNone},
		"ahead of the parent":             {parent, leaf(101, ""), 4, 0, api.ErrNone},
		"at the parent's High":            {parent, leaf(103, "q"), 4, 0, api.ErrNone},
		"behind the parent":               {parent, leaf(103, "z"), 4, 0, api.ErrNone},
		"a prefix of the key":             {wide, leaf(400, ""), 4, 0, api.ErrNone},
		"longer than the key":             {wide, leaf(400, "k\x00"), 4, 0, api.ErrNone},
		"the parent itself":               {parent, parent, 4, 0, api.ErrTree},
		"a child of its level":            {parent, inner(102, 1, kids("d")...), 4, 0, api.ErrTree},
		"a child of a higher level":       {parent, inner(102, 2, kids("d")...), 4, 0, api.ErrTree},
		"a child of the highest":          {high, inner(102, maxLevel, kids("d")...), 4, 0, api.ErrTree},
		"a child two levels below":        {inner(2, 2, kids("", "d")...), leaf(102, "d"), 4, 0, api.ErrTree},
		"the first, two levels below":     {inner(2, 2, kids("", "d")...), leaf(101, ""), 4, 0, api.ErrTree},
		"a leaf as a parent":              {leaf(2, "", row("", kid(101), "d", kid(102))...), leaf(102, "d"), 4, 0, api.ErrTree},
		"a leaf below nothing":            {leaf(2, ""), inner(102, maxLevel, kids("d")...), 4, 0, api.ErrTree},
		"none, a level above":             {parent, inner(9, 2, kids("f")...), 4, 0, api.ErrTree},
		"a Dsn too great":                 {parent, leaf(102, "d"), maxLsn + 1, 0, api.ErrPage},
		"the greatest Dsn":                {parent, leaf(102, "d"), most, 0, api.ErrPage},
		"a Dsn too great, the first":      {parent, leaf(101, "b"), maxLsn + 1, 0, api.ErrPage},
		"a Dsn too great, none":           {parent, leaf(9, "f"), maxLsn + 1, 0, api.ErrPage},
		"a Dsn too great, its level":      {parent, parent, maxLsn + 1, 0, api.ErrPage},
		"a child that is not valid":       {parent, other, 4, 0, api.ErrPage},
		"a child that is not valid, high": {leaf(2, ""), api.Page{Id: 9, Level: 255, Cells: kids("")}, 4, 0, api.ErrPage},
		"a parent that is not valid":      {inner(401, 1, kids("", "d")...), leaf(102, "d"), 4, 0, api.ErrPage},
		"a parent above all":              {api.Page{Id: 2, Level: 11, Cells: kids("", "d")}, inner(102, 10, kids("d")...), 4, 0, api.ErrPage},
		"a parent without cells":          {api.Page{Id: 2, Level: 1}, leaf(102, "d"), 4, 0, api.ErrPage},
		"not valid, and none":             {parent, leaf(0, "z"), 4, 0, api.ErrPage},
		"no pages":                        {api.Page{}, api.Page{}, 0, 0, api.ErrPage},
	} {
		want := clone(c.parent)
		if c.want == api.OK {
			want.Dsn, want.Cells = c.dsn, slices.Delete(want.Cells, c.at, c.at+1)
		}
		got, e := merge.Unpost(c.parent, c.child, c.dsn)
		told(t, name, got, e, want, c.want)
	}
}

// P16.3

func joins(t *testing.T, lower, upper api.Page, low, dsn uint64) api.Errno {
	t.Helper()
	got, e := merge.Join(lower, upper, low, dsn)
	want, wantE := plainJoin(lower, upper, low, dsn)
	told(t, fmt.Sprintf("Join %s, %s, %d, %d", show(lower), show(upper), low, dsn), got, e, want, wantE)
	return e
}

func TestJoin(t *testing.T) {
	seen := outcomes{}
	all := append(right(), wrong()...)
	for _, lower := range all {
		for _, upper := range all {
			for _, low := range lows() {
				seen[joins(t, lower, upper, low, 9)]++
			}
			for _, dsn := range dsns() {
				seen[joins(t, lower, upper, maxLsn, dsn)]++
			}
		}
	}
	seen.all(t, api.OK, api.ErrPage, api.ErrTree, api.ErrState)
}

func TestJoinRandom(t *testing.T) {
	r := rand.New(rand.NewSource(163))
	seen := outcomes{}
	for range 10000 {
		lower, upper := neighbours(r)
		seen[joins(t, lower, upper, uint64(r.Intn(12)*r.Intn(12)), uint64(r.Intn(99)))]++
	}
	seen.all(t, api.OK, api.ErrPage, api.ErrTree, api.ErrState, api.ErrFull)
	if seen[api.OK] < 1000 {
		t.Error(seen)
	}
}

// Each page is written out here.
func TestJoinEdges(t *testing.T) {
	a := api.Page{Id: 7, Right: 4, Low: "b", High: "m", End: true, Dsn: 99, Set: set(3, 5, 8), Cells: row("b", "1", "l\xff", "2")}
	b := api.Page{Id: 4, Right: 9, Low: "m", High: "t", End: true, Dsn: 100, Set: set(4, 7, 8), Cells: row("m", "3", "mm", "4")}
	last := b
	last.Right, last.High, last.End = 0, "", false
	bare := func(p api.Page) api.Page {
		p.Cells = nil
		return p
	}
	whole := slices.Concat(a.Cells, b.Cells)
	up := to(400, inner(1, maxLevel, kids("", "d")...), "m")
	for name, c := range map[string]struct {
		lower, upper api.Page
		low, dsn     uint64
		want         api.Page
	}{
		"at the higher Low":     {a, b, 4, 9, api.Page{Id: 7, Right: 9, Low: "b", High: "t", End: true, Dsn: 9, Set: set(4, 5, 7, 8), Cells: whole}},
		"at a number":           {a, b, 5, 0, api.Page{Id: 7, Right: 9, Low: "b", High: "t", End: true, Set: set(5, 7, 8), Cells: whole}},
		"between numbers":       {a, b, 6, maxLsn, api.Page{Id: 7, Right: 9, Low: "b", High: "t", End: true, Dsn: maxLsn, Set: set(6, 7, 8), Cells: whole}},
		"at the last number":    {a, b, 8, 9, api.Page{Id: 7, Right: 9, Low: "b", High: "t", End: true, Dsn: 9, Set: set(8), Cells: whole}},
		"above all numbers":     {a, b, maxLsn, 9, api.Page{Id: 7, Right: 9, Low: "b", High: "t", End: true, Dsn: 9, Set: set(maxLsn), Cells: whole}},
		"the last one":          {a, last, 4, 9, api.Page{Id: 7, Low: "b", Dsn: 9, Set: set(4, 5, 7, 8), Cells: whole}},
		"no cells above":        {a, bare(b), 4, 9, api.Page{Id: 7, Right: 9, Low: "b", High: "t", End: true, Dsn: 9, Set: set(4, 5, 7, 8), Cells: a.Cells}},
		"no cells below":        {bare(a), last, 4, 9, api.Page{Id: 7, Low: "b", Dsn: 9, Set: set(4, 5, 7, 8), Cells: b.Cells}},
		"no cells":              {bare(a), bare(last), 4, 9, api.Page{Id: 7, Low: "b", Dsn: 9, Set: set(4, 5, 7, 8)}},
		"no Sets":               {with(set(0), a), with(set(0), last), 0, 9, api.Page{Id: 7, Low: "b", Dsn: 9, Cells: whole}},
		"numbers alone":         {with(set(0, 2), a), with(set(0, 1), last), 0, 9, api.Page{Id: 7, Low: "b", Dsn: 9, Set: set(0, 1, 2), Cells: whole}},
		"the lower one's Low":   {with(set(6, 7), a), with(set(1, 2, 9), last), 6, 9, api.Page{Id: 7, Low: "b", Dsn: 9, Set: set(6, 7, 9), Cells: whole}},
		"the same Set":          {with(set(3, 5), a), with(set(3, 5), last), 3, 9, api.Page{Id: 7, Low: "b", Dsn: 9, Set: set(3, 5), Cells: whole}},
		"the greatest numbers":  {with(set(maxLsn), a), with(set(0, maxLsn), last), maxLsn, 9, api.Page{Id: 7, Low: "b", Dsn: 9, Set: set(maxLsn), Cells: whole}},
		"the greatest, above":   {with(set(maxLsn-1), a), with(set(0, maxLsn), last), maxLsn - 1, 9, api.Page{Id: 7, Low: "b", Dsn: 9, Set: set(maxLsn-1, maxLsn), Cells: whole}},
		"as many as may be":     {with(set(0, span(1, 500)...), a), with(set(0, span(501, 1000)...), last), 0, 9, api.Page{Id: 7, Low: "b", Dsn: 9, Set: set(0, span(1, 1000)...), Cells: whole}},
		"as many, twice":        {with(set(0, span(1, 1000)...), a), with(set(0, span(1, 1000)...), last), 0, 9, api.Page{Id: 7, Low: "b", Dsn: 9, Set: set(0, span(1, 1000)...), Cells: whole}},
		"as many, once raised":  {with(set(0, span(1, 1000)...), a), with(set(0, span(2, 1001)...), last), 1, 9, api.Page{Id: 7, Low: "b", Dsn: 9, Set: set(1, span(2, 1001)...), Cells: whole}},
		"none, once raised":     {with(set(0, span(1, 1000)...), a), with(set(1000, span(1001, 2000)...), last), 2000, 9, api.Page{Id: 7, Low: "b", Dsn: 9, Set: set(2000), Cells: whole}},
		"inner pages":           {up, inner(400, maxLevel, row("m", kid(5))...), 0, 9, api.Page{Id: 1, Level: maxLevel, Dsn: 9, Cells: row("", kid(101), "d", kid(102), "m", kid(5))}},
		"inner pages, a low":    {up, to(3, inner(400, maxLevel, row("m", kid(5))...), "q"), 7, 0, api.Page{Id: 1, Right: 3, Level: maxLevel, High: "q", End: true, Cells: row("", kid(101), "d", kid(102), "m", kid(5))}},
		"inner pages, all lows": {up, inner(400, maxLevel, row("m", kid(5), "n", kid(1))...), maxLsn, maxLsn, api.Page{Id: 1, Level: maxLevel, Dsn: maxLsn, Cells: row("", kid(101), "d", kid(102), "m", kid(5), "n", kid(1))}},
	} {
		got, e := merge.Join(c.lower, c.upper, c.low, c.dsn)
		told(t, name, got, e, c.want, api.OK)
	}
}

func TestJoinErrors(t *testing.T) {
	a := with(set(3, 5, 8), to(2, leaf(1, "", row("a", "x")...), "m"))
	b := with(set(4, 7), leaf(2, "m", row("n", "y")...))
	bad := leaf(2, "m", row("a", "y")...)
	up, upper := to(2, inner(1, 1, kids("", "d")...), "m"), inner(2, 1, kids("m")...)
	full, more := set(0, span(1, 1000)...), set(0, 1001)
	for name, c := range map[string]struct {
		lower, upper api.Page
		low, dsn     uint64
		want         api.Errno
	}{
		"the other way round":          {b, a, 4, 9, api.ErrTree},
		"the same":                     {a, a, 4, 9, api.ErrTree},
		"another Right":                {to(3, a, "m"), b, 4, 9, api.ErrTree},
		"another number":               {a, leaf(3, "m"), 4, 9, api.ErrTree},
		"a gap":                        {a, leaf(2, "n"), 4, 9, api.ErrTree},
		"keys of both":                 {a, leaf(2, "b"), 4, 9, api.ErrTree},
		"a level above":                {a, upper, 4, 9, api.ErrTree},
		"a level below":                {up, b, 4, 9, api.ErrTree},
		"a ring":                       {a, to(1, b, "p"), 4, 9, api.ErrTree},
		"a ring of inner pages":        {up, to(1, upper, "p"), 4, 9, api.ErrTree},
		"a ring, a low too small":      {a, to(1, b, "p"), 3, 9, api.ErrTree},
		"a gap, too many":              {with(full, a), with(more, leaf(2, "n")), 0, 9, api.ErrTree},
		"not next, and both Lows":      {b, a, 0, 9, api.ErrTree},
		"the upper one's Low":          {a, b, 3, 9, api.ErrState},
		"the lower one's Low":          {with(set(5), a), b, 4, 9, api.ErrState},
		"both Lows":                    {a, b, 2, 9, api.ErrState},
		"both Lows, which are one":     {with(set(4), a), b, 3, 9, api.ErrState},
		"a low of nothing":             {with(set(1), a), with(set(0), b), 0, 9, api.ErrState},
		"the greatest Low":             {a, with(set(maxLsn), b), maxLsn - 1, 9, api.ErrState},
		"a Low, and too many":          {with(full, a), with(set(1, 1001), b), 0, 9, api.ErrState},
		"one too many":                 {with(full, a), with(more, b), 0, 9, api.ErrFull},
		"one too many below":           {with(more, a), with(full, b), 0, 9, api.ErrFull},
		"one too many, some raised":    {with(set(0, span(2, 1001)...), a), with(set(0, 1, 1002), b), 1, 9, api.ErrFull},
		"twice too many":               {with(full, a), with(set(0, span(1001, 2000)...), b), 0, 9, api.ErrFull},
		"as many as may be":            {with(full, a), with(set(0, 1000), b), 0, 9, api.OK},
		"one too many, raised":         {with(full, a), with(more, b), 1, 9, api.OK},
		"a low too great":              {a, b, maxLsn + 1, 9, api.ErrPage},
		"the greatest low":             {a, b, most, 9, api.ErrPage},
		"a Dsn too great":              {a, b, 4, maxLsn + 1, api.ErrPage},
		"the greatest Dsn":             {a, b, 4, most, api.ErrPage},
		"a low too great, inner":       {up, upper, maxLsn + 1, 9, api.ErrPage},
		"a Dsn too great, inner":       {up, upper, 4, maxLsn + 1, api.ErrPage},
		"the lower one is not valid":   {to(2, leaf(0, ""), "m"), b, 4, 9, api.ErrPage},
		"the upper one is not valid":   {a, bad, 4, 9, api.ErrPage},
		"not valid, and not next":      {bad, a, 4, 9, api.ErrPage},
		"not next, a Dsn too great":    {b, a, 4, maxLsn + 1, api.ErrPage},
		"not next, a low too great":    {b, a, maxLsn + 1, 9, api.ErrPage},
		"a Low, and a Dsn too great":   {a, b, 3, maxLsn + 1, api.ErrPage},
		"too many, a Dsn too great":    {with(full, a), with(more, b), 0, maxLsn + 1, api.ErrPage},
		"no lower page":                {api.Page{}, b, 4, 9, api.ErrPage},
		"no upper page":                {a, api.Page{}, 4, 9, api.ErrPage},
		"no pages":                     {api.Page{}, api.Page{}, 0, 0, api.ErrPage},
		"a Set that is not valid":      {with(set(3, 3), a), b, 4, 9, api.ErrPage},
		"an inner page with a Set":     {up, with(set(0, 1), upper), 4, 9, api.ErrPage},
		"the greatest numbers of all":  {a, b, maxLsn, maxLsn, api.OK},
		"the greatest numbers, inner":  {up, upper, maxLsn, maxLsn, api.OK},
		"the least numbers, inner":     {up, upper, 0, 0, api.OK},
		"the least low that there may": {a, b, 4, 0, api.OK},
	} {
		got, e := merge.Join(c.lower, c.upper, c.low, c.dsn)
		if e != c.want || e != api.OK && !alike(got, api.Page{}) {
			t.Errorf("%s: %s, %v, not %v", name, show(got), e, c.want)
		}
	}
}

// P16.4

// forest is one that was built from one leaf on, with its root.
type forest struct {
	r    *rand.Rand
	f    []api.Page
	root uint64
	free []uint64
}

// grown makes a forest by so many random steps.
func grown(r *rand.Rand, steps int) *forest {
	g := &forest{r: r}
	for _, n := range r.Perm(maxId) {
		g.free = append(g.free, uint64(n)+1)
	}
	g.root = g.id()
	g.put(api.Page{Id: g.root, Set: set(2, 4)})
	for range steps {
		g.step()
	}
	return g
}

// id takes a free number.
func (g *forest) id() uint64 {
	id := g.free[0]
	g.free = g.free[1:]
	return id
}

func (g *forest) put(pages ...api.Page) {
	for _, p := range pages {
		g.f = route.Put(g.f, p)
	}
}

// step does an operation on a random page, or splits or posts it.
func (g *forest) step() {
	p := g.f[g.r.Intn(len(g.f))]
	switch n := g.r.Intn(9); {
	case n < 5 && p.Level == 0:
		g.write(p, word(g.r))
	case n == 5 && p.Id == g.root:
		if top, lower, upper, e := split.Grow(p, g.free[0], g.free[1], 9); e == api.OK {
			g.free = g.free[2:]
			g.put(top, lower, upper)
		}
	case n == 6 && p.Id != g.root:
		if lower, upper, e := split.Split(p, g.free[0], 9); e == api.OK {
			g.free = g.free[1:]
			g.put(lower, upper)
		}
	case n > 6 && g.isOpen(p.Id):
		parent, _ := g.above(p)
		parent, _ = split.Post(parent, p, 9)
		g.put(parent)
	}
}

// write does an operation on a leaf, if it has the key.
func (g *forest) write(p api.Page, key string) {
	if key >= p.Low && (!p.End || key < p.High) {
		p.Cells, _ = cells.Put(p.Cells, api.Cell{Key: key, Value: word(g.r)})
		p.Set, _ = lsns.Add(p.Set, uint64(g.r.Intn(40)))
		g.put(p)
	}
}

func (g *forest) isOpen(id uint64) bool { return slices.Contains(g.open(), id) }

func (g *forest) open() []uint64 { return route.Unposted(g.f, g.root) }

// above returns the page of the level above whose range contains the page's Low.
func (g *forest) above(child api.Page) (api.Page, bool) {
	for _, p := range g.f {
		if p.Level == child.Level+1 && p.Low <= child.Low && (!p.End || child.Low < p.High) {
			return p, true
		}
	}
	return api.Page{}, false
}

// keeps checks that a forest is valid for the same root, has the same cells, and these pages that are not posted.
func (g *forest) keeps(t *testing.T, name string, f []api.Page, unposted []uint64) {
	t.Helper()
	slices.Sort(unposted)
	if e := route.Check(f, g.root); e != api.OK {
		t.Errorf("%s: %v: root %d, %s", name, e, g.root, shows(f))
	}
	if !slices.Equal(route.Cells(f, g.root), route.Cells(g.f, g.root)) {
		t.Errorf("%s: cells %v, not %v", name, route.Cells(f, g.root), route.Cells(g.f, g.root))
	}
	if got := route.Unposted(f, g.root); !slices.Equal(got, unposted) {
		t.Errorf("%s: not posted are %v, not %v: root %d, %s", name, got, unposted, g.root, shows(f))
	}
}

// without returns a list without one number.
func without(l []uint64, id uint64) []uint64 {
	return slices.DeleteFunc(slices.Clone(l), func(n uint64) bool { return n == id })
}

// unposted is the forest without the cell of a page, if that may be, which it may unless the cell is not there or a first one.
func (g *forest) unposted(t *testing.T, p api.Page) ([]api.Page, bool) {
	t.Helper()
	parent, is := g.above(p)
	q, e := merge.Unpost(parent, p, 7)
	want := api.OK
	switch {
	case !is:
		want = api.ErrPage
	case g.isOpen(p.Id):
		want = api.ErrNone
	case p.Low == parent.Low:
		want = api.ErrState
	}
	name := fmt.Sprintf("Unpost %d of %s", p.Id, shows(g.f))
	if e != want {
		t.Errorf("%s: %v, not %v", name, e, want)
	}
	if e != api.OK {
		return nil, false
	}
	f := route.Put(g.f, q)
	g.keeps(t, name, f, append(g.open(), p.Id))
	return f, true
}

// joined is the forest in which a page has become one with its Right, if that is not posted.
func (g *forest) joined(t *testing.T, p api.Page) ([]api.Page, bool) {
	t.Helper()
	upper, is := route.At(g.f, p.Right)
	if !is || !g.isOpen(upper.Id) {
		return nil, false
	}
	name := fmt.Sprintf("Join %d of %s", p.Id, shows(g.f))
	q, e := merge.Join(p, upper, 10, 7)
	if e != api.OK || !merge.Beside(p, upper) {
		t.Errorf("%s: %v", name, e)
	}
	f := route.Drop(route.Put(g.f, q), upper.Id)
	g.keeps(t, name, f, without(g.open(), upper.Id))
	return f, true
}

// Each page of a forest is removed from its parent, and each one that is not posted becomes one with its left neighbour, each time from the same forest on.
func TestForests(t *testing.T) {
	r := rand.New(rand.NewSource(164))
	done, levels := map[string]int{}, map[uint8]int{}
	for range 100 {
		g := grown(r, r.Intn(400))
		top, _ := route.At(g.f, g.root)
		levels[top.Level]++
		for _, p := range g.f {
			if _, is := g.unposted(t, p); is {
				done[fmt.Sprint("Unpost ", p.Level > 0)]++
			}
			if _, is := g.joined(t, p); is {
				done[fmt.Sprint("Join ", p.Level > 0)]++
			}
		}
	}
	if done["Unpost true"] < 100 || done["Unpost false"] < 300 || done["Join true"] < 30 || done["Join false"] < 100 || len(levels) < 4 {
		t.Error(done, levels)
	}
}

// By these calls alone any forest becomes one with one page on each level.
func TestForestsShrink(t *testing.T) {
	r := rand.New(rand.NewSource(165))
	for range 30 {
		g := grown(r, 50+r.Intn(300))
		was := route.Cells(g.f, g.root)
		for more := true; more; {
			more = false
			for _, p := range slices.Clone(g.f) {
				p, is := route.At(g.f, p.Id)
				if !is {
					continue
				}
				if f, is := g.unposted(t, p); is {
					g.f, more = f, true
				}
				if f, is := g.joined(t, p); is {
					g.f, more = f, true
				}
			}
		}
		top, _ := route.At(g.f, g.root)
		if len(g.f) != int(top.Level)+1 || !slices.Equal(route.Cells(g.f, g.root), was) {
			t.Errorf("root %d: %s", g.root, shows(g.f))
		}
	}
}

// A page that is removed from its parent is reached from its left neighbour alone, and then is that one.
func TestReachedFromTheLeft(t *testing.T) {
	root := inner(1, 1, row("", kid(2), "m", kid(3))...)
	lower, upper := to(3, leaf(2, "", row("a", "1")...), "m"), leaf(3, "m", row("m", "2")...)
	f := []api.Page{root, lower, upper}
	walk := func(name, key string, want ...uint64) {
		t.Helper()
		if got, e := route.Find(f, 1, key, 0); e != api.OK || !slices.Equal(got, want) {
			t.Errorf("%s, %q: %v, %v, not %v", name, key, got, e, want)
		}
	}
	walk("posted", "a", 1, 2)
	walk("posted", "m", 1, 3)
	var e api.Errno
	if f[0], e = merge.Unpost(root, upper, 9); e != api.OK {
		t.Fatal(e)
	}
	walk("unposted", "l\xff", 1, 2)
	walk("unposted", "m", 1, 2, 3)
	if f[1], e = merge.Join(lower, upper, 3, 10); e != api.OK {
		t.Fatal(e)
	}
	f = f[:2]
	walk("joined", "a", 1, 2)
	walk("joined", "m", 1, 2)
}

// P16.5

// near returns numbers of a Set and around them.
func near(sets ...api.Lsns) []uint64 {
	var l []uint64
	for _, s := range sets {
		for _, n := range append(slices.Clone(s.In), s.Low) {
			l = append(l, n-1, n, n+1)
		}
	}
	return append(l, 0, 1, maxLsn-1, maxLsn, maxLsn+1, most)
}

func TestNumbersOfTheJoined(t *testing.T) {
	r := rand.New(rand.NewSource(166))
	done := 0
	for range 600 {
		a, b, low := someSet(r), someSet(r), uint64(r.Intn(25))
		p, e := merge.Join(with(a, to(2, leaf(1, ""), "m")), with(b, leaf(2, "m")), low, 9)
		if e != api.OK {
			continue
		}
		done++
		for _, n := range near(a, b, p.Set, set(low)) {
			want := lsns.Has(a, n) || lsns.Has(b, n) || n <= low
			if got := lsns.Has(p.Set, n); got != want {
				t.Errorf("%d in %v of %v and %v, %d: %v", n, p.Set, a, b, low, got)
			}
		}
	}
	if done < 300 {
		t.Error(done)
	}
}

// again checks that the parts of a page become it again, but for the Dsn and, of a leaf, what was raised.
func again(t *testing.T, p, lower, upper api.Page, low uint64) {
	t.Helper()
	want := p
	want.Id, want.Dsn = lower.Id, 12
	if p.Level == 0 {
		want.Set, _ = lsns.Raise(p.Set, low)
	}
	got, e := merge.Join(lower, upper, low, 12)
	told(t, show(p), got, e, want, api.OK)
}

func TestSplitAndJoined(t *testing.T) {
	r := rand.New(rand.NewSource(167))
	all := right()
	for range 2000 {
		p, q := neighbours(r)
		all = append(all, p, q)
	}
	done := map[bool]int{}
	for _, p := range all {
		low := max(p.Set.Low, uint64(r.Intn(30)))
		if lower, upper, e := split.Split(p, p.Id%(maxId-1)+2, 9); e == api.OK {
			again(t, p, lower, upper, low)
			done[p.Level > 0]++
		}
		if _, lower, upper, e := split.Grow(p, p.Id%(maxId-2)+2, p.Id%(maxId-2)+3, 9); e == api.OK {
			again(t, p, lower, upper, low)
			done[p.Level > 0]++
		}
	}
	if done[true] < 500 || done[false] < 500 {
		t.Error(done)
	}
}

// R5: what is handed in is neither changed nor shared, its spare capacity included.

// spare returns a page whose lists have something behind their ends.
func spare(p api.Page) api.Page {
	p.Set.In = append(slices.Clone(p.Set.In), 77, 78)[:len(p.Set.In)]
	p.Cells = append(slices.Clone(p.Cells), row("spare", "1", "spare", "2")...)[:len(p.Cells)]
	return p
}

// isWhole reports whether what spare made of a page is still all there.
func isWhole(p, of api.Page) bool {
	in, l := len(p.Set.In), len(p.Cells)
	return alike(p, of) && slices.Equal(p.Set.In[in:in+2], []uint64{77, 78}) && slices.Equal(p.Cells[l:l+2], row("spare", "1", "spare", "2"))
}

// spoil overwrites a list, with all of its capacity.
func spoil[T any](l []T) {
	var none T
	for i := range l[:cap(l)] {
		l[:cap(l)][i] = none
	}
}

// pairs are pages that may be joined, or of which one may be removed from the other one.
func pairs() map[string][2]api.Page {
	return map[string][2]api.Page{
		"leaves":           {to(2, leaf(1, "", row("a", "x")...), "m"), leaf(2, "m", row("n", "y", "o", "z")...)},
		"no cells above":   {to(2, leaf(1, "", row("a", "x")...), "m"), leaf(2, "m")},
		"no cells below":   {to(2, leaf(1, ""), "m"), leaf(2, "m", row("n", "y")...)},
		"no cells":         {to(2, leaf(1, ""), "m"), leaf(2, "m")},
		"no Set below":     {with(set(0), to(2, leaf(1, ""), "m")), leaf(2, "m")},
		"no Sets":          {with(set(0), to(2, leaf(1, ""), "m")), with(set(0), leaf(2, "m"))},
		"inner pages":      {to(2, inner(1, 1, kids("", "d")...), "m"), inner(2, 1, kids("m")...)},
		"a child":          {inner(1, 1, kids("", "d", "m")...), leaf(102, "d", row("e", "x")...)},
		"the last child":   {inner(1, 2, kids("", "d")...), inner(102, 1, kids("d", "e")...)},
		"the first child":  {inner(1, 1, kids("", "d")...), leaf(101, "")},
		"no child":         {inner(1, 1, kids("", "d")...), leaf(9, "d")},
		"a low too small":  {with(set(20), to(2, leaf(1, ""), "m")), leaf(2, "m")},
		"pages not valid":  {leaf(0, "", row("a", "x")...), leaf(401, "")},
		"pages of a level": {leaf(1, "", row("a", "x")...), leaf(2, "")},
	}
}

// calls are those of a page and another one.
func calls(p, q api.Page) map[string]func() api.Page {
	return map[string]func() api.Page{
		"Beside": func() api.Page { merge.Beside(p, q); return api.Page{} },
		"Under":  func() api.Page { merge.Under(p, q, 9); return api.Page{} },
		"Unpost": func() api.Page { got, _ := merge.Unpost(p, q, 9); return got },
		"Join":   func() api.Page { got, _ := merge.Join(p, q, 6, 9); return got },
		"Join, nothing is raised": func() api.Page {
			got, _ := merge.Join(p, q, 3, 9)
			return got
		},
	}
}

func TestNothingIsChanged(t *testing.T) {
	for name, pair := range pairs() {
		p, q := spare(pair[0]), spare(pair[1])
		for call, of := range calls(p, q) {
			got := of()
			spoil(got.Set.In)
			spoil(got.Cells)
			if !isWhole(p, pair[0]) || !isWhole(q, pair[1]) {
				t.Fatalf("%s of %s: %s and %s", call, name, show(p), show(q))
			}
		}
	}
}

// An answer does not hang on what earlier ones were used for.
func TestAnswersApart(t *testing.T) {
	for name, pair := range pairs() {
		for call, of := range calls(spare(pair[0]), spare(pair[1])) {
			first := of()
			want := clone(first)
			spoil(of().Cells)
			spoil(of().Set.In)
			if !alike(first, want) || !alike(of(), want) {
				t.Errorf("%s of %s: %s, not %s", call, name, show(of()), show(want))
			}
		}
	}
}

// The chapter's examples.
func TestExamples(t *testing.T) {
	lower := api.Page{Id: 1, Right: 2, High: "b", End: true, Cells: row("a", "x")}
	upper := api.Page{Id: 2, Low: "b", Cells: row("c", "y")}
	want := api.Page{Id: 1, Dsn: 9, Cells: row("a", "x", "c", "y")}
	got, e := merge.Join(lower, upper, 0, 9)
	told(t, "Join", got, e, want, api.OK)
	upper.Set.Low, want.Set.Low = 5, 5
	got, e = merge.Join(lower, upper, 4, 9)
	told(t, "Join, low 4", got, e, api.Page{}, api.ErrState)
	got, e = merge.Join(lower, upper, 5, 9)
	told(t, "Join, low 5", got, e, want, api.OK)
	parent := inner(3, 1, row("", kid(1), "b", kid(2))...)
	got, e = merge.Unpost(parent, upper, 9)
	told(t, "Unpost 2", got, e, api.Page{Id: 3, Level: 1, Dsn: 9, Cells: row("", kid(1))}, api.OK)
	got, e = merge.Unpost(parent, lower, 9)
	told(t, "Unpost 1", got, e, api.Page{}, api.ErrState)
}

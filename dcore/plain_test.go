package dcore_test

import (
	"encoding/binary"
	"fmt"
	"slices"
	"strings"
	"testing"

	"lockkeeper/api"
	"lockkeeper/block"
	"lockkeeper/change"
	"lockkeeper/dcore"
	"lockkeeper/master"
	"lockkeeper/merge"
	"lockkeeper/page"
	"lockkeeper/route"
	"lockkeeper/split"
	"lockkeeper/tape"
	"lockkeeper/vault"
	"lockkeeper/wal"
)

const maxLsn = uint64(1) << 48

// disks are the devices of a core.
type disks struct {
	pages, heart *block.Dev
	log          *tape.Tape
}

// sectorsOf is the smallest number of sectors that fits the options.
func sectorsOf(o api.CoreOptions) int { return (dcore.Need(o) + 4 + 55) / 56 }

func newDisks(o api.CoreOptions, places, room int) disks {
	pages, _ := block.New(2*places, sectorsOf(o))
	heart, _ := block.New(2, 1)
	return disks{pages, heart, tape.New(room)}
}

func (d disks) copy() disks { return disks{d.pages.Copy(), d.heart.Copy(), d.log.Copy()} }

// crash keeps nothing of what is not durable.
func (d disks) crash() disks {
	d.pages.Crash(nil)
	d.heart.Crash(nil)
	d.log.Crash(0)
	return d
}

func (d disks) open(o api.CoreOptions) (*dcore.Core, api.Errno) {
	return dcore.Open(d.pages, d.heart, d.log, o)
}

// told is what of the devices can be seen, and what a power loss would leave.
func (d disks) told() string {
	bytes, _ := d.log.Read(d.log.Base(), d.log.End())
	parts := []string{fmt.Sprint(d.log.Base(), d.log.Sure(), d.log.End()), bytes}
	for _, dev := range []*block.Dev{d.pages, d.heart} {
		durable := dev.Copy()
		durable.Crash(nil)
		parts = append(parts, fmt.Sprint(dev.Pending()))
		for _, on := range []*block.Dev{dev, durable} {
			for b := range on.Blocks() {
				s, _ := on.Read(b)
				parts = append(parts, s)
			}
		}
	}
	return strings.Join(parts, "|")
}

// marks is a master's string.
func marks(epoch, from uint64) string {
	return string(binary.BigEndian.AppendUint64(binary.BigEndian.AppendUint64(nil, epoch), from))
}

// smaller is the smaller one of two numbers that is not 0.
func smaller(a, b uint64) uint64 {
	if a == 0 || b != 0 && b < a {
		return b
	}
	return a
}

func clone(p api.Page) api.Page {
	p.Set.In, p.Cells = slices.Clone(p.Set.In), slices.Clone(p.Cells)
	return p
}

func contains(s api.Lsns, n uint64) bool { return n <= s.Low || slices.Contains(s.In, n) }

func most(s api.Lsns) uint64 {
	for _, n := range s.In {
		s.Low = max(s.Low, n)
	}
	return s.Low
}

func size(l []api.Cell) int {
	sum := 0
	for _, c := range l {
		sum += 4 + len(c.Key) + len(c.Value)
	}
	return sum
}

func inRange(p api.Page, key string) bool { return p.Low <= key && (!p.End || key < p.High) }

// The chapter's Terms and Promises once more, as plainly as can be: the forest is a list, and of the pool only that is kept on which an answer hangs.

// frame is what the pool must not forget of a page.
type frame struct {
	dirty, writing bool
	first, late    uint64
}

type plain struct {
	o       api.CoreOptions
	d       disks
	v       *vault.Vault
	m       *master.Master
	w       *wal.Wal
	f       []api.Page
	frames  map[uint64]*frame
	open    map[uint64]bool
	waits   []api.Change
	up      bool
	out     uint64
	epoch   uint64
	from    uint64
	eosl    uint64
	low     uint64
	comment string
}

// restored is the pages that a vault and records make, as far as they are reached.
func restored(v *vault.Vault, records []api.Entry) ([]api.Page, bool) {
	var all []api.Page
	for _, id := range v.Ids() {
		p, _ := v.Get(id)
		all = append(all, p)
	}
	if _, is := route.At(all, 1); !is {
		all = route.Put(all, api.Page{Id: 1})
	}
	for _, r := range records {
		c, e := change.Get(r.Data)
		if r.Kind != 1 || e != api.OK || change.Number(c) != r.N {
			return nil, false
		}
		all, _ = change.Apply(all, c)
	}
	return reach(all, nil, 1)
}

// reach is the pages f and those that are reached from the page id, which is not 0.
func reach(all, f []api.Page, id uint64) ([]api.Page, bool) {
	if _, is := route.At(f, id); is {
		return f, true
	}
	p, is := route.At(all, id)
	if !is {
		return nil, false
	}
	f = route.Put(f, p)
	next := []uint64{p.Right}
	for _, c := range p.Cells {
		if p.Level > 0 {
			kid, _ := page.Id(c.Value)
			next = append(next, kid)
		}
	}
	for _, n := range next {
		if n == 0 {
			continue
		}
		if f, is = reach(all, f, n); !is {
			return nil, false
		}
	}
	return f, true
}

// openPlain does what P18.2 says, with devices that are there and fit; they are written to on the way.
func openPlain(d disks, o api.CoreOptions) (*plain, api.Errno) {
	m, _ := master.Open(d.heart)
	p := &plain{o: o, d: d, m: m, from: 1, epoch: 1, frames: map[uint64]*frame{}, open: map[uint64]bool{}}
	if s := m.Data(); s != "" {
		if len(s) != 16 {
			return nil, api.ErrCore
		}
		p.epoch, p.from = binary.BigEndian.Uint64([]byte(s))+1, binary.BigEndian.Uint64([]byte(s[8:]))
		if p.epoch > maxLsn+1 || p.epoch == 0 || p.from < 1 || p.from > maxLsn {
			return nil, api.ErrCore
		}
	}
	var e api.Errno
	if p.w, e = wal.Open(d.log, p.from-1); e != api.OK {
		return nil, api.ErrCore
	}
	p.v, _ = vault.Open(d.pages)
	var is bool
	if p.f, is = restored(p.v, p.w.From(p.from)); !is || route.Check(p.f, 1) != api.OK {
		return nil, api.ErrCore
	}
	for _, q := range p.f {
		if old, e := p.v.Get(q.Id); e != api.OK || !page.Same(old, q) {
			if e := p.v.Put(q); e != api.OK {
				return nil, e
			}
		}
	}
	p.v.Sync()
	for _, id := range route.Unposted(p.f, 1) {
		p.open[id] = true
	}
	return p, api.OK
}

func (p *plain) boot() (bool, api.Errno) {
	switch {
	case p.up:
		return false, api.ErrState
	case !p.m.Busy():
		return false, p.m.Put(marks(p.epoch, p.w.Last()+1))
	}
	p.up = true
	return p.seal()
}

func (p *plain) note(eosl, low uint64) api.Errno {
	p.eosl, p.low = max(p.eosl, eosl), max(p.low, min(low, maxLsn))
	for i := range p.f {
		if p.f[i].Level == 0 {
			s := &p.f[i].Set
			s.Low = max(s.Low, p.low)
			s.In = slices.DeleteFunc(slices.Clone(s.In), func(n uint64) bool { return n <= s.Low })
		}
	}
	return api.OK
}

func (p *plain) page(id uint64) api.Page {
	q, _ := route.At(p.f, id)
	return q
}

// whose is the page of a level whose range has the key.
func (p *plain) whose(key string, level uint8) api.Page {
	for _, q := range p.f {
		if q.Level == level && inRange(q, key) {
			return clone(q)
		}
	}
	panic("no page has " + key)
}

// left is the left neighbour of a page; the zero page if it has none.
func (p *plain) left(id uint64) api.Page {
	for _, q := range p.f {
		if q.Right == id {
			return clone(q)
		}
	}
	return api.Page{}
}

// kept is how many frames can't be evicted.
func (p *plain) kept() int {
	n := 0
	for _, fr := range p.frames {
		if fr.dirty || fr.writing {
			n++
		}
	}
	return n
}

// reads tells whether the pool can read the pages, one after the other: a page that no frame must keep needs one that nothing keeps.
func (p *plain) reads(ids ...uint64) bool {
	for _, id := range ids {
		if fr := p.frames[id]; p.kept() == p.o.Frames && (fr == nil || !fr.dirty && !fr.writing) {
			return false
		}
	}
	return true
}

func (p *plain) first(id uint64) uint64 {
	if fr := p.frames[id]; fr != nil {
		return smaller(fr.first, fr.late)
	}
	return 0
}

func (p *plain) put(q api.Page, lsn uint64) {
	fr := p.frames[q.Id]
	if fr == nil {
		fr = &frame{}
		p.frames[q.Id] = fr
	}
	fr.dirty, fr.first = true, smaller(fr.first, lsn)
	p.f = route.Put(p.f, q)
}

// free is the lowest free numbers.
func (p *plain) free(n int) []uint64 {
	var l []uint64
	for id := uint64(2); id <= uint64(p.v.Places()); id++ {
		if _, is := route.At(p.f, id); !is && len(l) < n {
			l = append(l, id)
		}
	}
	return l
}

func (p *plain) number() uint64 {
	if n := len(p.waits); n > 0 {
		return change.Number(p.waits[n-1]) + 1
	}
	return p.w.Last() + 1
}

// change makes a change, whose pages are put with the numbers of firsts, or refuses it.
func (p *plain) change(pages []api.Page, gone []uint64, firsts ...uint64) api.Errno {
	c, e := change.Make(pages, gone, p.number())
	if e != api.OK || p.kept() > p.o.Frames-4 {
		return api.ErrFull
	}
	cost := 0
	for _, w := range append(slices.Clone(p.waits), c) {
		s, _ := change.Put(w)
		cost += 21 + len(s)
	}
	if p.w.Room() < cost {
		return api.ErrFull
	}
	p.waits = append(p.waits, c)
	for i, q := range pages {
		q.Dsn = change.Number(c)
		p.put(q, firsts[i])
	}
	for _, id := range gone {
		p.f = route.Drop(p.f, id)
		delete(p.frames, id)
	}
	return api.OK
}

// part splits a page that is too full.
func (p *plain) part(q api.Page, first uint64) api.Errno {
	if q.Id == 1 {
		free := p.free(2)
		if len(free) < 2 || p.kept() > p.o.Frames-4 {
			return api.ErrFull
		}
		top, lower, upper, e := split.Grow(q, free[0], free[1], 1)
		if e != api.OK {
			return e
		}
		return p.change([]api.Page{top, lower, upper}, nil, 0, first, first)
	}
	free := p.free(1)
	if len(free) < 1 {
		return api.ErrFull
	}
	lower, upper, _ := split.Split(q, free[0], 1)
	e := p.change([]api.Page{lower, upper}, nil, first, first)
	if e == api.OK {
		p.open[free[0]] = true
	}
	return e
}

func (p *plain) isLong(key, value string) bool {
	return len(key) < 1 || len(key) > 512 || len(value) > 2048 || len(key)+len(value) > p.o.Cell
}

func (p *plain) do(op api.Op) api.Errno {
	switch {
	case !p.up:
		return api.ErrState
	case op.Lsn < 1 || op.Lsn > maxLsn || op.Del && op.Value != "":
		return api.ErrArg
	case p.isLong(op.Key, op.Value):
		return api.ErrLong
	}
	if way, _ := route.Find(p.f, 1, op.Key, 0); !p.reads(way...) {
		return api.ErrFull
	}
	q := p.whose(op.Key, 0)
	if contains(q.Set, op.Lsn) {
		return api.OK
	}
	if n := len(q.Set.In); n >= p.o.In+100 || n >= p.o.In && most(q.Set) < op.Lsn {
		return api.ErrFull
	}
	q.Set.In = append(q.Set.In, op.Lsn)
	slices.Sort(q.Set.In)
	q.Cells = slices.DeleteFunc(q.Cells, func(c api.Cell) bool { return c.Key == op.Key })
	if !op.Del {
		q.Cells = append(q.Cells, api.Cell{Key: op.Key, Value: op.Value})
		slices.SortFunc(q.Cells, func(a, b api.Cell) int { return strings.Compare(a.Key, b.Key) })
	}
	if len(q.Cells) < 2 || size(q.Cells) <= p.o.Most {
		p.put(q, op.Lsn)
		return api.OK
	}
	return p.part(q, smaller(op.Lsn, p.first(q.Id)))
}

func (p *plain) get(key string) (string, bool, api.Errno) {
	switch {
	case !p.up:
		return "", false, api.ErrState
	case p.isLong(key, ""):
		return "", false, api.ErrLong
	}
	if way, _ := route.Find(p.f, 1, key, 0); !p.reads(way...) {
		return "", false, api.ErrFull
	}
	for _, c := range p.whose(key, 0).Cells {
		if c.Key == key {
			return c.Value, true, api.OK
		}
	}
	return "", false, api.OK
}

func (p *plain) scan(r api.Range, n int) ([]api.Cell, bool, api.Errno) {
	switch {
	case !p.up:
		return nil, false, api.ErrState
	case len(r.From) > 513 || len(r.To) > 513 || r.End && r.From >= r.To || !r.End && r.To != "" || n < 1:
		return nil, false, api.ErrArg
	}
	way, _ := route.Find(p.f, 1, r.From, 0)
	q := p.whose(r.From, 0)
	var l []api.Cell
	for {
		for _, c := range q.Cells {
			if r.From <= c.Key && (!r.End || c.Key < r.To) {
				l = append(l, c)
			}
		}
		if len(l) > n || !q.End || r.End && r.To <= q.High {
			break
		}
		way, q = append(way, q.Right), p.page(q.Right)
	}
	switch {
	case !p.reads(way...):
		return nil, false, api.ErrFull
	case len(l) > n:
		return l[:n], true, api.OK
	}
	return l, false, api.OK
}

func (p *plain) work(kind uint8) (bool, api.Errno) {
	if !p.up {
		return false, api.ErrState
	}
	switch kind {
	case 1:
		return p.force()
	case 2:
		return p.flush()
	case 3:
		return p.sync()
	case 4:
		return p.post()
	case 5:
		return p.merge()
	case 6:
		return p.point()
	case 7:
		if !p.m.Busy() {
			return false, api.OK
		}
		return p.seal()
	}
	return false, api.ErrArg
}

func (p *plain) force() (bool, api.Errno) {
	need := uint64(0)
	for _, c := range p.waits {
		need = max(need, change.Most(c))
	}
	switch {
	case len(p.waits) > 0 && need <= p.eosl:
		for _, c := range p.waits {
			s, _ := change.Put(c)
			p.w.Append(1, s)
		}
		p.waits = nil
	case p.w.Last() > p.w.Stable():
		p.w.Force()
	default:
		return false, api.OK
	}
	return true, api.OK
}

func (p *plain) flush() (bool, api.Errno) {
	for _, q := range p.f {
		fr := p.frames[q.Id]
		if fr == nil || !fr.dirty || fr.writing || most(q.Set) > p.eosl || q.Dsn > p.w.Stable() {
			continue
		}
		if e := p.v.Put(q); e != api.OK {
			return false, e
		}
		*fr = frame{writing: true, late: fr.first}
		return true, api.OK
	}
	return false, api.OK
}

func (p *plain) sync() (bool, api.Errno) {
	did := false
	for _, fr := range p.frames {
		did = did || fr.writing
		fr.writing, fr.late = false, 0
	}
	if did {
		p.v.Sync()
	}
	return did, api.OK
}

func (p *plain) post() (bool, api.Errno) {
	for _, u := range p.f {
		if !p.open[u.Id] {
			continue
		}
		parent, _ := split.Post(p.whose(u.Low, u.Level+1), u, 1)
		var e api.Errno
		if size(parent.Cells) > p.o.Most && len(parent.Cells) > 1 {
			e = p.part(parent, 0)
		} else {
			e = p.change([]api.Page{parent}, nil, 0)
		}
		if e == api.OK {
			delete(p.open, u.Id)
		}
		return e == api.OK, e
	}
	return false, api.OK
}

func (p *plain) merge() (bool, api.Errno) {
	if p.out != 0 {
		return p.join()
	}
	for q := p.whose("", 0); q.End; q = p.page(q.Right) {
		u := p.page(q.Right)
		if p.open[u.Id] || size(q.Cells)+size(u.Cells) > p.o.Most/2 || q.Set.Low > p.low || u.Set.Low > p.low {
			continue
		}
		parent, e := merge.Unpost(p.whose(u.Low, 1), u, 1)
		if e != api.OK {
			continue
		}
		if e := p.change([]api.Page{parent}, nil, 0); e != api.OK {
			return false, e
		}
		p.out = u.Id
		return true, api.OK
	}
	return false, api.OK
}

func (p *plain) join() (bool, api.Errno) {
	u, q := p.page(p.out), p.left(p.out)
	joined, e := merge.Join(q, u, p.low, 1)
	if size(q.Cells)+size(u.Cells) > p.o.Most || q.Set.Low > p.low || u.Set.Low > p.low || e != api.OK || len(joined.Set.In) > p.o.In {
		p.open[u.Id], p.out = true, 0
		return true, api.OK
	}
	if fr := p.frames[u.Id]; fr != nil && fr.writing {
		return false, api.OK
	}
	if e := p.change([]api.Page{joined}, []uint64{u.Id}, smaller(p.first(q.Id), p.first(u.Id))); e != api.OK {
		return false, e
	}
	p.out = 0
	return true, api.OK
}

// said is the new from as P18.7 says it.
func (p *plain) said() uint64 {
	n := p.w.Stable() + 1
	for _, q := range p.f {
		if fr := p.frames[q.Id]; fr != nil && (fr.dirty || fr.writing) && q.Dsn >= p.from {
			n = min(n, q.Dsn)
		}
	}
	return n
}

// stable is the records from n on that survive every crash.
func (p *plain) stable(n uint64) []api.Entry {
	return slices.DeleteFunc(p.w.From(n), func(r api.Entry) bool { return r.N > p.w.Stable() })
}

// point does what P18.7 says, but that no record goes without which recovery would find another forest, as P18.12 forbids that.
func (p *plain) point() (bool, api.Errno) {
	n := p.said()
	if p.m.Busy() || n <= p.from {
		return false, api.OK
	}
	want, _ := restored(p.v, p.stable(p.from))
	for n > p.from {
		if got, is := restored(p.v, p.stable(n)); is && route.Same(got, want) {
			break
		}
		n--
	}
	if n <= p.from {
		return false, api.OK
	}
	e := p.m.Put(marks(p.epoch, n))
	return e == api.OK, e
}

func (p *plain) seal() (bool, api.Errno) {
	p.m.Sync()
	p.from = binary.BigEndian.Uint64([]byte(p.m.Data()[8:]))
	p.w.Trim(p.from)
	return true, api.OK
}

func (p *plain) oldest() uint64 {
	var n uint64
	for id := range p.frames {
		n = smaller(n, p.first(id))
	}
	return n
}

func (p *plain) stop() {
	p.d.pages.Sync()
	p.d.heart.Sync()
	p.d.log.Cut(p.d.log.Sure())
}

// compare holds what can be seen of a core against the plain one.
func (p *plain) compare(t *testing.T, c *dcore.Core) {
	t.Helper()
	got := fmt.Sprint(c.Up(), c.Epoch(), c.From(), c.Stable(), c.Oldest())
	if want := fmt.Sprint(p.up, p.epoch, p.from, p.w.Stable(), p.oldest()); got != want {
		t.Fatalf("%s: up, epoch, from, stable, oldest %s, not %s", p.comment, got, want)
	}
	if f := c.Forest(); !route.Same(f, p.f) {
		t.Fatalf("%s: the forest is\n%v, not\n%v", p.comment, f, p.f)
	}
}

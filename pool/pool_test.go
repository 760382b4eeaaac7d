package pool_test

import (
	"fmt"
	"maps"
	"math"
	"math/rand"
	"slices"
	"strings"
	"testing"

	"lockkeeper/api"
	"lockkeeper/block"
	"lockkeeper/lsns"
	"lockkeeper/master"
	"lockkeeper/page"
	"lockkeeper/pool"
	"lockkeeper/vault"
)

const (
	sectors   = 4
	maxPage   = 400
	maxFrames = 400
	maxLsn    = uint64(1) << 48
	most      = math.MaxUint64
)

func wants(t *testing.T, name string, got, want api.Errno) {
	t.Helper()
	if got != want {
		t.Errorf("%s: %v, not %v", name, got, want)
	}
}

// none returns what is no object.
func none() map[string]*pool.Pool { return map[string]*pool.Pool{"nil": nil, "zero": {}} }

// leaf is a page that numbers tell from others.
func leaf(id, dsn, low uint64, in ...uint64) api.Page {
	return api.Page{Id: id, Dsn: dsn, Set: api.Lsns{Low: low, In: in}, Cells: []api.Cell{{Key: "a", Value: fmt.Sprint(dsn, low, in)}}}
}

// inner is a page that is no leaf.
func inner(id, dsn uint64) api.Page {
	child, _ := page.Kid(9)
	return api.Page{Id: id, Level: 1, Dsn: dsn, Cells: []api.Cell{{Value: child}}}
}

// long is a page that does not fit a block.
func long(id uint64) api.Page {
	return api.Page{Id: id, Cells: []api.Cell{{Key: "a", Value: strings.Repeat("v", 64*sectors)}}}
}

// crowded is a valid leaf with one cell too many for layer 11.
func crowded(id uint64) api.Page {
	p := api.Page{Id: id}
	for i := range 1 << 16 {
		p.Cells = append(p.Cells, api.Cell{Key: string([]byte{byte(i >> 8), byte(i)})})
	}
	return p
}

// wrong returns pages that are not valid; some of their numbers have a place, some have none.
func wrong() []api.Page {
	short := inner(2, 0)
	short.Cells[0].Value = "x"
	return []api.Page{
		{}, {Id: maxPage + 1}, {Id: 1 << 32}, {Id: most}, {Id: 1, Right: 2}, {Id: 1, Level: 1}, {Id: 2, Dsn: maxLsn + 1}, leaf(3, 0, maxLsn+1), leaf(3, 0, 4, 4), leaf(maxPage, 0, 4, 6, 5),
		{Id: 1, Cells: []api.Cell{{Key: "b"}, {Key: "a"}}}, {Id: 1, High: "a"}, short,
	}
}

// leaves returns so many pages that differ.
func leaves(n uint64) []api.Page {
	var l []api.Page
	for id := uint64(1); id <= n; id++ {
		l = append(l, leaf(id, id, id, id+100))
	}
	return l
}

// vaultOf returns a device and its vault, in which some pages are current.
func vaultOf(t *testing.T, places int, pages ...api.Page) (*block.Dev, *vault.Vault) {
	t.Helper()
	on, e := block.New(2*places, sectors)
	wants(t, "block.New", e, api.OK)
	v, e := vault.Open(on)
	wants(t, "vault.Open", e, api.OK)
	for _, q := range pages {
		wants(t, "vault.Put", v.Put(q), api.OK)
	}
	wants(t, "vault.Sync", v.Sync(), api.OK)
	return on, v
}

// seat is a frame as the chapter's Terms define it.
type seat struct {
	page                    api.Page
	dirty, writing, touched bool
	pins                    int
	first, late             uint64
}

// plain is a pool as the chapter's Terms define it, over a device of its own.
type plain struct {
	on    *block.Dev
	vault *vault.Vault
	limit int
	seats map[uint64]*seat
	hand  uint64
}

func (p *plain) has(id uint64) bool { return p.seats[id] != nil }

// room makes room, as if the limit were reached.
func (p *plain) room() api.Errno {
	start := p.hand
	for range 2 {
		for i := range uint64(maxPage) {
			id := (start+i)%maxPage + 1
			s := p.seats[id]
			if s == nil {
				continue
			}
			p.hand = id
			if s.pins > 0 || s.dirty || s.writing {
				continue
			}
			if !s.touched {
				delete(p.seats, id)
				return api.OK
			}
			s.touched = false
		}
	}
	return api.ErrFull
}

func (p *plain) roomForOne() api.Errno {
	if len(p.seats) < p.limit {
		return api.OK
	}
	return p.room()
}

func (p *plain) get(id uint64) (api.Page, api.Errno) {
	if p.has(id) {
		p.seats[id].touched = true
		return p.seats[id].page, api.OK
	}
	q, e := p.vault.Get(id)
	if e != api.OK {
		return api.Page{}, e
	}
	if e := p.roomForOne(); e != api.OK {
		return api.Page{}, e
	}
	p.seats[id] = &seat{page: q, touched: true}
	return q, api.OK
}

func (p *plain) look(id uint64) (api.Page, api.Errno) {
	if p.has(id) {
		return p.seats[id].page, api.OK
	}
	return p.vault.Get(id)
}

func (p *plain) put(q api.Page, lsn uint64) api.Errno {
	if page.Check(q) != api.OK {
		return api.ErrPage
	}
	if q.Id > uint64(p.on.Blocks()/2) {
		return api.ErrArg
	}
	if !p.has(q.Id) {
		if e := p.roomForOne(); e != api.OK {
			return e
		}
		p.seats[q.Id] = &seat{}
	}
	s := p.seats[q.Id]
	s.page, s.dirty, s.touched = q, true, true
	if lsn != 0 && (s.first == 0 || s.first > lsn) {
		s.first = lsn
	}
	return api.OK
}

func (p *plain) drop(id uint64) api.Errno {
	if !p.has(id) {
		return api.ErrNone
	}
	if p.seats[id].pins > 0 || p.seats[id].writing {
		return api.ErrState
	}
	delete(p.seats, id)
	return api.OK
}

func (p *plain) pin(id uint64) api.Errno {
	if !p.has(id) {
		return api.ErrNone
	}
	p.seats[id].pins++
	return api.OK
}

func (p *plain) unpin(id uint64) api.Errno {
	if !p.has(id) {
		return api.ErrNone
	}
	if p.seats[id].pins == 0 {
		return api.ErrState
	}
	p.seats[id].pins--
	return api.OK
}

func (p *plain) make(n int) api.Errno {
	if n < 0 || n > p.limit {
		return api.ErrArg
	}
	for len(p.seats)+n > p.limit {
		if e := p.room(); e != api.OK {
			return e
		}
	}
	return api.OK
}

// least returns the smallest number that is not 0.
func least(l ...uint64) uint64 {
	l = slices.DeleteFunc(l, func(n uint64) bool { return n == 0 })
	if len(l) == 0 {
		return 0
	}
	return slices.Min(l)
}

func (p *plain) first(id uint64) uint64 {
	if !p.has(id) {
		return 0
	}
	return least(p.seats[id].first, p.seats[id].late)
}

func (p *plain) oldest() uint64 {
	var l []uint64
	for id := range p.seats {
		l = append(l, p.first(id))
	}
	return least(l...)
}

func (p *plain) ready(id, eosl, dsn uint64) bool {
	if !p.has(id) || !p.seats[id].dirty || p.seats[id].writing {
		return false
	}
	set := p.seats[id].page.Set
	for _, n := range append([]uint64{set.Low}, set.In...) {
		if n > eosl {
			return false
		}
	}
	return p.seats[id].page.Dsn <= dsn
}

func (p *plain) flush(id, eosl, dsn uint64) api.Errno {
	if !p.has(id) {
		return api.ErrNone
	}
	if !p.ready(id, eosl, dsn) {
		return api.ErrState
	}
	s := p.seats[id]
	if e := p.vault.Put(s.page); e != api.OK {
		return e
	}
	s.dirty, s.writing, s.late, s.first = false, true, s.first, 0
	return api.OK
}

func (p *plain) sync() api.Errno {
	for _, s := range p.seats {
		s.writing, s.late = false, 0
	}
	return p.vault.Sync()
}

func (p *plain) raise(low uint64) api.Errno {
	for _, s := range p.seats {
		if s.page.Level == 0 {
			s.page.Set, _ = lsns.Raise(s.page.Set, low)
		}
	}
	return api.OK
}

// ids returns the numbers of the pages whose frames are wanted.
func (p *plain) ids(wanted func(*seat) bool) []uint64 {
	return slices.DeleteFunc(slices.Sorted(maps.Keys(p.seats)), func(id uint64) bool { return !wanted(p.seats[id]) })
}

// both is a pool, and what it must be like.
type both struct {
	t    *testing.T
	pool *pool.Pool
	on   *block.Dev
	want *plain
}

// bothOf returns a pool over a vault in which some pages are current.
func bothOf(t *testing.T, places, frames int, pages ...api.Page) *both {
	t.Helper()
	on, v := vaultOf(t, places, pages...)
	return bothOver(t, on, v, frames)
}

func bothOver(t *testing.T, on *block.Dev, v *vault.Vault, frames int) *both {
	t.Helper()
	like := on.Copy()
	w, e := vault.Open(like)
	wants(t, "vault.Open", e, api.OK)
	p, e := pool.New(v, frames)
	if p == nil || e != api.OK {
		t.Fatal("New:", e)
	}
	b := &both{t, p, on, &plain{on: like, vault: w, limit: frames, seats: map[uint64]*seat{}}}
	b.same("New")
	return b
}

// spoil changes all memory that a page's lists have, also that behind them.
func spoil(p api.Page) {
	in, l := p.Set.In[:cap(p.Set.In)], p.Cells[:cap(p.Cells)]
	for i := range in {
		in[i] = most
	}
	for i := range l {
		l[i] = api.Cell{Key: "spoiled"}
	}
}

// roomy returns the page with room behind its lists.
func roomy(p api.Page) api.Page {
	p.Set.In = slices.Grow(slices.Clone(p.Set.In), 3)
	p.Cells = slices.Grow(slices.Clone(p.Cells), 3)
	return p
}

func (b *both) is(name string, got api.Page, e api.Errno, want api.Page, f api.Errno) {
	b.t.Helper()
	if e != f || !page.Same(got, want) {
		b.t.Fatalf("%s: %v, %v, not %v, %v", name, got, e, want, f)
	}
}

func (b *both) lists(name string, got, want []uint64) {
	b.t.Helper()
	if !slices.Equal(got, want) {
		b.t.Fatalf("%s: %d, not %d", name, got, want)
	}
	for i := range got[:cap(got)] {
		got[:cap(got)][i] = 77
	}
}

// same checks all that can be seen of a pool, and of its device.
func (b *both) same(name string) {
	b.t.Helper()
	b.lists(name+": Ids", b.pool.Ids(), b.want.ids(func(s *seat) bool { return true }))
	b.lists(name+": Changed", b.pool.Changed(), b.want.ids(func(s *seat) bool { return s.dirty }))
	b.lists(name+": Ways", b.pool.Ways(), b.want.ids(func(s *seat) bool { return s.writing }))
	if got, want := b.pool.Oldest(), b.want.oldest(); got != want {
		b.t.Fatalf("%s: Oldest is %d, not %d", name, got, want)
	}
	for id := range uint64(b.on.Blocks()/2 + 2) {
		b.sameOf(name, id)
	}
	sameDevice(b.t, name, b.on, b.want.on)
	durable, want := b.on.Copy(), b.want.on.Copy()
	durable.Crash(nil)
	want.Crash(nil)
	sameDevice(b.t, name+", what is durable", durable, want)
}

func (b *both) sameOf(name string, id uint64) {
	b.t.Helper()
	q, e := b.pool.Look(id)
	r, f := b.want.look(id)
	b.is(fmt.Sprint(name, ": Look ", id), q, e, r, f)
	spoil(q)
	if got, want := b.pool.First(id), b.want.first(id); got != want {
		b.t.Fatalf("%s: First of %d is %d, not %d", name, id, got, want)
	}
	number := lsns.Most(r.Set)
	for _, eosl := range []uint64{0, number - 1, number, number + 1, most} {
		for _, dsn := range []uint64{0, r.Dsn - 1, r.Dsn, most} {
			if got, want := b.pool.Ready(id, eosl, dsn), b.want.ready(id, eosl, dsn); got != want {
				b.t.Fatalf("%s: Ready(%d, %d, %d) is %v", name, id, eosl, dsn, got)
			}
		}
	}
}

func sameDevice(t *testing.T, name string, got, want *block.Dev) {
	t.Helper()
	if got.Pending() != want.Pending() {
		t.Fatalf("%s: %d writes are pending, not %d", name, got.Pending(), want.Pending())
	}
	for b := range want.Blocks() {
		s, _ := got.Read(b)
		if r, _ := want.Read(b); s != r {
			t.Fatalf("%s: block %d has %x, not %x", name, b, s, r)
		}
	}
}

// did checks a call's error, and what can be seen behind it.
func (b *both) did(name string, got, want api.Errno) api.Errno {
	b.t.Helper()
	if got != want {
		b.t.Fatalf("%s: %v, not %v", name, got, want)
	}
	b.same(name)
	return got
}

func (b *both) get(id uint64) api.Errno {
	b.t.Helper()
	name := fmt.Sprint("Get ", id)
	got, e := b.pool.Get(id)
	want, f := b.want.get(id)
	b.is(name, got, e, want, f)
	spoil(got)
	return b.did(name, e, f)
}

func (b *both) put(q api.Page, lsn uint64) api.Errno {
	b.t.Helper()
	name := fmt.Sprint("Put ", q.Id, " with ", lsn)
	given := roomy(q)
	e := b.pool.Put(given, lsn)
	if !page.Same(given, q) || slices.Max(append(given.Set.In[len(q.Set.In):][:3], 0)) != 0 || given.Cells[len(q.Cells):][:1][0] != (api.Cell{}) {
		b.t.Fatal(name, "changed the page")
	}
	spoil(given)
	return b.did(name, e, b.want.put(q, lsn))
}

func (b *both) drop(id uint64) api.Errno {
	b.t.Helper()
	return b.did(fmt.Sprint("Drop ", id), b.pool.Drop(id), b.want.drop(id))
}

func (b *both) pin(id uint64) api.Errno {
	b.t.Helper()
	return b.did(fmt.Sprint("Pin ", id), b.pool.Pin(id), b.want.pin(id))
}

func (b *both) unpin(id uint64) api.Errno {
	b.t.Helper()
	return b.did(fmt.Sprint("Unpin ", id), b.pool.Unpin(id), b.want.unpin(id))
}

func (b *both) make(n int) api.Errno {
	b.t.Helper()
	return b.did(fmt.Sprint("Make ", n), b.pool.Make(n), b.want.make(n))
}

func (b *both) flush(id, eosl, dsn uint64) api.Errno {
	b.t.Helper()
	return b.did(fmt.Sprintf("Flush(%d, %d, %d)", id, eosl, dsn), b.pool.Flush(id, eosl, dsn), b.want.flush(id, eosl, dsn))
}

func (b *both) sync() api.Errno {
	b.t.Helper()
	return b.did("Sync", b.pool.Sync(), b.want.sync())
}

func (b *both) raise(low uint64) api.Errno {
	b.t.Helper()
	return b.did(fmt.Sprint("Raise ", low), b.pool.Raise(low), b.want.raise(low))
}

// has checks which pages have frames, as a test names them.
func (b *both) has(ids ...uint64) {
	b.t.Helper()
	b.lists("Ids", b.pool.Ids(), ids)
}

// gets gets pages, which must have room.
func (b *both) gets(ids ...uint64) {
	b.t.Helper()
	for _, id := range ids {
		wants(b.t, fmt.Sprint("Get ", id), b.get(id), api.OK)
	}
}

// puts puts pages with their own numbers, which must have room.
func (b *both) puts(ids ...uint64) {
	b.t.Helper()
	for _, id := range ids {
		wants(b.t, fmt.Sprint("Put ", id), b.put(leaf(id, id, 50+id), 50+id), api.OK)
	}
}

// cleans writes pages.
func (b *both) cleans(ids ...uint64) {
	b.t.Helper()
	for _, id := range ids {
		wants(b.t, fmt.Sprint("Flush ", id), b.flush(id, most, most), api.OK)
	}
	wants(b.t, "Sync", b.sync(), api.OK)
}

// oldest checks Oldest, as a test names it.
func (b *both) oldest(want uint64) {
	b.t.Helper()
	if got := b.pool.Oldest(); got != want {
		b.t.Fatalf("Oldest is %d, not %d", got, want)
	}
}

// P13.1

func TestNewOfNoVault(t *testing.T) {
	for name, v := range map[string]*vault.Vault{"nil": nil, "zero": {}} {
		for _, frames := range []int{math.MinInt, 0, 3, 4, maxFrames, math.MaxInt} {
			p, e := pool.New(v, frames)
			wants(t, name, e, api.ErrNil)
			if p != nil {
				t.Error(name, "has a pool")
			}
		}
	}
}

func TestNewOfFrames(t *testing.T) {
	on, v := vaultOf(t, 3, leaves(2)...)
	before := on.Copy()
	for _, frames := range []int{math.MinInt, -400, -4, -1, 0, 1, 2, 3, maxFrames + 1, maxFrames + 2, 1 << 20, math.MaxInt} {
		p, e := pool.New(v, frames)
		wants(t, fmt.Sprint(frames, " frames"), e, api.ErrArg)
		if p != nil {
			t.Error(frames, "frames: a pool")
		}
	}
	for _, frames := range []int{4, 5, 399, maxFrames} {
		p, e := pool.New(v, frames)
		wants(t, fmt.Sprint(frames, " frames"), e, api.OK)
		if p == nil || len(p.Ids())+len(p.Changed())+len(p.Ways()) != 0 || p.Oldest() != 0 {
			t.Error(frames, "frames: not a pool without frames")
		}
	}
	sameDevice(t, "New", on, before)
}

// TestLimit: there may be as many frames as New was told, and no more.
func TestLimit(t *testing.T) {
	on, v := vaultOf(t, maxPage)
	for id := uint64(1); id <= maxPage; id++ {
		wants(t, "vault.Put", v.Put(api.Page{Id: id}), api.OK)
	}
	wants(t, "vault.Sync", v.Sync(), api.OK)
	before := on.Copy()
	for _, frames := range []int{4, 5, 6, 50, 399, maxFrames} {
		p, e := pool.New(v, frames)
		wants(t, "New", e, api.OK)
		for id := uint64(1); id <= maxPage; id++ {
			_, e := p.Get(id)
			wants(t, "Get", e, api.OK)
			if got := len(p.Ids()); got != min(int(id), frames) {
				t.Fatalf("%d frames, not %d", got, min(int(id), frames))
			}
		}
	}
	sameDevice(t, "Get", on, before)
}

func TestListsAscend(t *testing.T) {
	_, v := vaultOf(t, maxPage)
	p, _ := pool.New(v, maxFrames)
	var all, some, others []uint64
	for i := range uint64(maxPage) {
		id := i*171%maxPage + 1
		wants(t, "Put", p.Put(api.Page{Id: id}, 0), api.OK)
		if all = append(all, i+1); i%3 == 0 {
			some = append(some, i+1)
		} else {
			others = append(others, i+1)
		}
	}
	for _, id := range some {
		wants(t, "Flush", p.Flush(id, 0, 0), api.OK)
	}
	for range 5 {
		if !slices.Equal(p.Ids(), all) || !slices.Equal(p.Changed(), others) || !slices.Equal(p.Ways(), some) {
			t.Error(p.Ids(), p.Changed(), p.Ways())
		}
	}
}

// TestLists: a page may be dirty and being written at once, or neither.
func TestLists(t *testing.T) {
	b := bothOf(t, 6, 6, leaves(6)...)
	b.gets(6, 2)
	b.puts(5, 3, 1)
	b.flush(3, most, most)
	b.flush(1, most, most)
	b.puts(3)
	b.has(1, 2, 3, 5, 6)
	b.lists("Changed", b.pool.Changed(), []uint64{3, 5})
	b.lists("Ways", b.pool.Ways(), []uint64{1, 3})
	b.sync()
	b.lists("Changed", b.pool.Changed(), []uint64{3, 5})
	b.lists("Ways", b.pool.Ways(), nil)
}

func TestNone(t *testing.T) {
	for name, p := range none() {
		for range 2 {
			if len(p.Ids())+len(p.Changed())+len(p.Ways()) != 0 || p.Oldest() != 0 {
				t.Error(name, "has frames")
			}
			for _, id := range []uint64{0, 1, maxPage, most} {
				for call, get := range map[string]func(uint64) (api.Page, api.Errno){"Get": p.Get, "Look": p.Look} {
					q, e := get(id)
					wants(t, name+": "+call, e, api.ErrNil)
					if !page.Same(q, api.Page{}) {
						t.Error(name, call, q)
					}
				}
				for call, act := range map[string]func(uint64) api.Errno{"Drop": p.Drop, "Pin": p.Pin, "Unpin": p.Unpin, "Raise": p.Raise} {
					wants(t, name+": "+call, act(id), api.ErrNil)
				}
				wants(t, name+": Flush", p.Flush(id, most, most), api.ErrNil)
				if p.First(id) != 0 || p.Ready(id, most, most) {
					t.Error(name, "has page", id)
				}
			}
			for _, q := range append(wrong(), leaf(1, 0, 0), crowded(1)) {
				wants(t, name+": Put", p.Put(q, 7), api.ErrNil)
			}
			for _, n := range []int{math.MinInt, -1, 0, 4, math.MaxInt} {
				wants(t, name+": Make", p.Make(n), api.ErrNil)
			}
			wants(t, name+": Sync", p.Sync(), api.ErrNil)
		}
	}
}

// P13.2

func TestGet(t *testing.T) {
	b := bothOf(t, 8, 8, leaf(1, 1, 1, 5, 9), inner(2, 7), api.Page{Id: 3, Right: 4, Low: "b", High: "d", End: true}, leaf(8, 0, maxLsn))
	b.gets(8, 3, 2, 1, 1, 2, 3, 8)
	b.has(1, 2, 3, 8)
	for _, id := range []uint64{4, 5, 6, 7} {
		wants(t, "not current", b.get(id), api.ErrNone)
	}
	for _, id := range []uint64{0, 9, 10, maxPage, maxPage + 1, 1<<32 + 1, 1 << 63, most} {
		wants(t, "no place", b.get(id), api.ErrArg)
	}
	b.has(1, 2, 3, 8)
}

// TestGetOfFrame: the frame's page is what was put, not what the vault has.
func TestGetOfFrame(t *testing.T) {
	b := bothOf(t, 4, 4, leaves(3)...)
	b.puts(1, 4)
	b.gets(1, 4, 2)
	b.put(leaf(2, 9, 9, 11), 0)
	b.gets(2)
	b.flush(2, most, most)
	b.gets(2)
	b.put(leaf(2, 10, 10, 11), 0)
	b.gets(2)
	b.sync()
	b.gets(1, 2, 4)
	q, e := b.pool.Get(2)
	b.is("Get", q, e, leaf(2, 10, 10, 11), api.OK)
}

// TestGetOfFull: a page that the vault refuses makes no room, and one that finds no room changes nothing.
func TestGetOfFull(t *testing.T) {
	b := bothOf(t, 7, 4, leaves(6)...)
	b.gets(1, 2, 3, 4)
	for range 9 {
		wants(t, "not current", b.get(7), api.ErrNone)
		wants(t, "no place", b.get(8), api.ErrArg)
		wants(t, "no place", b.get(0), api.ErrArg)
	}
	b.has(1, 2, 3, 4)
	b.pin(1)
	b.pin(4)
	b.puts(2, 3)
	for range 3 {
		wants(t, "no room", b.get(5), api.ErrFull)
		wants(t, "not current, no room", b.get(7), api.ErrNone)
		wants(t, "no place, no room", b.get(8), api.ErrArg)
		b.gets(1, 2, 3, 4)
	}
	b.has(1, 2, 3, 4)
	b.unpin(4)
	b.gets(5)
	b.has(1, 2, 3, 5)
}

// To make room

// TestRoom names the frames that are left, while all of them may be evicted.
func TestRoom(t *testing.T) {
	b := bothOf(t, 9, 4, leaves(9)...)
	b.gets(4, 3, 2, 1)
	for _, c := range []struct {
		get  uint64
		left []uint64
	}{
		{5, []uint64{2, 3, 4, 5}}, // all were touched: 1 is the first one that is examined again
		{6, []uint64{3, 4, 5, 6}},
		{3, []uint64{3, 4, 5, 6}},
		{7, []uint64{3, 5, 6, 7}}, // 3 was touched
		{1, []uint64{1, 5, 6, 7}}, // 5, 6 and 7 were touched, and 3 is touched no more
		{8, []uint64{1, 6, 7, 8}},
		{2, []uint64{1, 2, 7, 8}},
		{9, []uint64{1, 2, 8, 9}},
		{3, []uint64{1, 2, 3, 9}}, // all were touched, from 8 on
		{4, []uint64{1, 2, 3, 4}},
		{5, []uint64{2, 3, 4, 5}}, // nothing is above 9
		{6, []uint64{3, 4, 5, 6}},
	} {
		b.gets(c.get)
		b.has(c.left...)
	}
}

// TestRoomIsKept: what is pinned, dirty or being written is skipped, and stays touched.
func TestRoomIsKept(t *testing.T) {
	for name, c := range map[string]struct{ keep, release func(b *both) }{
		"pinned":             {func(b *both) { b.pin(1) }, func(b *both) { b.unpin(1) }},
		"pinned twice":       {func(b *both) { b.pin(1); b.pin(1); b.unpin(1) }, func(b *both) { b.unpin(1) }},
		"dirty":              {func(b *both) { b.puts(1) }, func(b *both) { b.cleans(1) }},
		"being written":      {func(b *both) { b.puts(1); b.flush(1, most, most) }, func(b *both) { b.sync() }},
		"both":               {func(b *both) { b.puts(1); b.flush(1, most, most); b.puts(1) }, func(b *both) { b.cleans(); b.cleans(1) }},
		"dirty, then pinned": {func(b *both) { b.puts(1); b.pin(1) }, func(b *both) { b.cleans(1); b.unpin(1) }},
	} {
		t.Run(name, func(t *testing.T) {
			b := bothOf(t, 9, 4, leaves(9)...)
			b.gets(1, 2, 3, 4)
			c.keep(b)
			b.gets(5, 6, 7, 8, 9, 2)
			b.has(1, 2, 8, 9)
			c.release(b)
			b.gets(3) // the hand is at 7: 8 is touched no more
			b.has(1, 2, 3, 9)
			b.gets(4)
			b.has(1, 2, 3, 4)
			b.gets(5, 6, 7) // 1 is still touched, as it was skipped
		})
	}
}

// TestRoomOfPut: Put makes room as Get does, and what it puts is touched.
func TestRoomOfPut(t *testing.T) {
	b := bothOf(t, 9, 4, leaves(9)...)
	b.gets(1, 2, 3, 4)
	b.puts(5, 7)
	b.has(3, 4, 5, 7)
	b.cleans(5, 7)
	b.gets(1, 2)
	b.has(1, 2, 5, 7)
	b.gets(6) // 5, 7, 1 and 2 are all touched
	b.has(1, 2, 6, 7)
}

// TestHand: the hand is where a frame was examined last, also if that frame is gone, and if none was evicted.
func TestHand(t *testing.T) {
	b := bothOf(t, 9, 4, leaves(9)...)
	b.gets(3, 5, 7, 9)
	b.gets(4) // 3 is evicted
	b.gets(6) // 5 is
	b.has(4, 6, 7, 9)
	b.drop(6)
	b.drop(4)
	b.gets(5, 8) // as there is room, the hand stays at 5
	b.has(5, 7, 8, 9)
	b.gets(1)
	b.has(1, 5, 8, 9)
	b = bothOf(t, 9, 4, leaves(9)...)
	b.puts(1, 2, 3, 4)
	wants(t, "Get", b.get(5), api.ErrFull) // 4 was examined last
	b.drop(2)
	b.puts(6)
	b.cleans(1, 3, 4, 6)
	b.gets(5)
	b.has(1, 3, 4, 5)
}

// P13.12

// TestLook: a page that was looked at has no frame, and one that has a frame is not touched.
func TestLook(t *testing.T) {
	b := bothOf(t, 8, 4, leaves(7)...)
	looks := func(want api.Page, f api.Errno) {
		t.Helper()
		q, e := b.pool.Look(want.Id)
		if e != api.OK {
			want = api.Page{}
		}
		b.is("Look", q, e, want, f)
	}
	looks(leaves(7)[0], api.OK)
	looks(api.Page{Id: 8}, api.ErrNone)
	looks(api.Page{Id: 0}, api.ErrArg)
	looks(api.Page{Id: 9}, api.ErrArg)
	looks(api.Page{Id: most}, api.ErrArg)
	b.has()
	b.gets(1, 2, 3, 4, 5)
	for _, id := range []uint64{2, 3, 4, 6, 1} {
		looks(leaves(7)[id-1], api.OK)
	}
	b.gets(6) // 2 was looked at, but not touched
	b.has(3, 4, 5, 6)
	b.put(leaf(3, 70, 71, 72), 0)
	b.put(leaf(8, 70, 71), 0)
	looks(leaf(3, 70, 71, 72), api.OK)
	looks(leaf(8, 70, 71), api.OK)
	b.drop(3)
	b.drop(8)
	looks(leaves(7)[2], api.OK)
	looks(api.Page{Id: 8}, api.ErrNone)
}

// P13.3

func TestPut(t *testing.T) {
	b := bothOf(t, 6, 6, leaves(2)...)
	for _, q := range []api.Page{
		leaf(1, 9, 1, 5), leaf(1, 3, 0), inner(1, 8), leaf(3, 0, 0), inner(4, 0), leaf(6, maxLsn, 7, maxLsn), leaf(5, 0, maxLsn), {Id: 2},
		{Id: 2, Right: 1, Low: "b", High: "d", End: true, Dsn: 7, Set: api.Lsns{Low: 3, In: []uint64{5, 8, 90}}, Cells: []api.Cell{{Key: "b", Value: "x"}, {Key: "c"}}}, long(2),
	} {
		wants(t, "Put", b.put(q, 0), api.OK)
		got, e := b.pool.Get(q.Id)
		b.is("Get", got, e, q, api.OK)
	}
	b.lists("Changed", b.pool.Changed(), []uint64{1, 2, 3, 4, 5, 6})
	b.oldest(0)
	if b.on.Pending() != 0 {
		t.Error("a page was written")
	}
}

// TestPutOfWrong: each error comes ahead of those behind it.
func TestPutOfWrong(t *testing.T) {
	b := bothOf(t, 5, 4)
	refused := func() {
		t.Helper()
		for i, q := range wrong() {
			wants(t, fmt.Sprint("wrong page ", i), b.pool.Put(q, 3), api.ErrPage)
		}
		for _, id := range []uint64{6, 7, 255, maxPage} {
			wants(t, fmt.Sprint("page ", id), b.put(leaf(id, 0, 0), 3), api.ErrArg)
		}
		b.same("refused")
	}
	refused()
	b.puts(1, 2, 3, 4)
	refused()
	wants(t, "no room", b.put(leaf(5, 0, 0), 3), api.ErrFull)
	b.puts(1, 2, 3, 4)
	b.oldest(51)
}

// TestPutOfFirst: the first is the smallest number since the last Flush.
func TestPutOfFirst(t *testing.T) {
	b := bothOf(t, 4, 4, leaves(4)...)
	for i, c := range []struct{ lsn, first uint64 }{
		{0, 0}, {9, 9}, {10, 9}, {9, 9}, {0, 9}, {8, 8}, {most, 8}, {1, 1}, {2, 1}, {0, 1},
	} {
		b.put(leaf(2, 0, uint64(i)), c.lsn)
		if b.pool.First(2) != c.first {
			t.Error(i, b.pool.First(2))
		}
	}
	b.put(leaf(3, 0, 0), most)
	if b.pool.First(3) != most || b.pool.First(1) != 0 || b.pool.First(4) != 0 {
		t.Error("another page")
	}
	b.drop(2)
	b.oldest(most)
	b.put(leaf(2, 0, 0), 0)
	b.oldest(most)
}

// P13.4

func TestPins(t *testing.T) {
	b := bothOf(t, 6, 5, leaves(5)...)
	for _, id := range []uint64{0, 1, 6, 7, most} {
		wants(t, "no frame", b.drop(id), api.ErrNone)
		wants(t, "no frame", b.pin(id), api.ErrNone)
		wants(t, "no frame", b.unpin(id), api.ErrNone)
	}
	b.gets(1, 2)
	wants(t, "not pinned", b.unpin(1), api.ErrState)
	for range 3 {
		wants(t, "Pin", b.pin(1), api.OK)
	}
	for range 3 {
		wants(t, "not pinned", b.unpin(2), api.ErrState)
		wants(t, "pinned", b.drop(1), api.ErrState)
		wants(t, "Unpin", b.unpin(1), api.OK)
	}
	wants(t, "not pinned", b.unpin(1), api.ErrState)
	wants(t, "Drop", b.drop(1), api.OK)
	wants(t, "no frame", b.drop(1), api.ErrNone)
	b.has(2)
}

// TestPinsOfPages: a frame that is gone takes its pins with it, and a pinned one is put and flushed as others are.
func TestPinsOfPages(t *testing.T) {
	b := bothOf(t, 6, 4, leaves(5)...)
	b.gets(1)
	b.pin(1)
	b.puts(1)
	b.cleans(1)
	wants(t, "pinned", b.drop(1), api.ErrState)
	b.unpin(1)
	wants(t, "Drop", b.drop(1), api.OK)
	b.gets(1)
	wants(t, "not pinned", b.unpin(1), api.ErrState)
}

func TestDrop(t *testing.T) {
	b := bothOf(t, 6, 4, leaves(2)...)
	b.gets(1)
	b.puts(2, 3)
	b.flush(2, most, most)
	wants(t, "being written", b.drop(2), api.ErrState)
	b.puts(2)
	wants(t, "being written, dirty", b.drop(2), api.ErrState)
	wants(t, "dirty", b.drop(3), api.OK)
	wants(t, "neither", b.drop(1), api.OK)
	wants(t, "gone", b.get(3), api.ErrNone)
	b.gets(1)
	b.sync()
	wants(t, "dirty", b.drop(2), api.OK)
	b.oldest(0)
	got, e := b.pool.Get(2)
	b.is("what was written", got, e, leaf(2, 2, 52), api.OK)
}

// P13.11

func TestMake(t *testing.T) {
	b := bothOf(t, 9, 5, leaves(9)...)
	for _, n := range []int{math.MinInt, -5, -1, 6, 7, 400, math.MaxInt} {
		wants(t, fmt.Sprint("Make ", n), b.make(n), api.ErrArg)
	}
	for _, n := range []int{0, 1, 5} {
		wants(t, "no frames", b.make(n), api.OK)
	}
	b.gets(1, 2, 3)
	for _, n := range []int{0, 1, 2} {
		wants(t, "there is room", b.make(n), api.OK)
	}
	b.has(1, 2, 3)
	wants(t, "one too many", b.make(3), api.OK)
	b.has(2, 3)
	b.gets(4)
	wants(t, "from 1 on, 2 is touched no more", b.make(3), api.OK)
	b.has(3, 4)
	b.gets(5, 6, 7)
	wants(t, "as if the limit were reached", b.make(0), api.OK)
	b.has(3, 4, 5, 6, 7)
	wants(t, "all", b.make(5), api.OK)
	b.has()
}

// TestMakeOfFull: what was evicted stays evicted.
func TestMakeOfFull(t *testing.T) {
	b := bothOf(t, 9, 6, leaves(9)...)
	b.gets(1, 2, 3, 4)
	b.puts(5)
	b.pin(2)
	for _, n := range []int{-1, 7, math.MaxInt} {
		wants(t, fmt.Sprint("Make ", n), b.make(n), api.ErrArg)
	}
	b.has(1, 2, 3, 4, 5)
	wants(t, "all but two", b.make(5), api.ErrFull)
	b.has(2, 5)
	wants(t, "no frame can go", b.make(6), api.ErrFull)
	wants(t, "there is room", b.make(4), api.OK)
	wants(t, "ahead of what is full", b.make(7), api.ErrArg)
	b.has(2, 5)
	b.unpin(2)
	wants(t, "one can go", b.make(5), api.OK)
	b.has(5)
}

// TestFirst: of the first and the late first the smaller one that there is.
func TestFirst(t *testing.T) {
	for _, c := range []struct{ late, first, want uint64 }{{0, 0, 0}, {0, 7, 7}, {7, 0, 7}, {7, 9, 7}, {9, 7, 7}, {7, 7, 7}, {most, 1, 1}, {1, most, 1}} {
		b := bothOf(t, 4, 4, leaves(4)...)
		first := func(want uint64) {
			t.Helper()
			if got := b.pool.First(3); got != want {
				t.Errorf("%v: %d, not %d", c, got, want)
			}
			b.oldest(want)
		}
		first(0)
		b.put(leaf(3, 0, 0), c.late)
		first(c.late)
		b.flush(3, most, most)
		first(c.late)
		b.put(leaf(3, 0, 0), c.first)
		first(c.want)
		b.gets(1)
		b.sync()
		first(c.first)
		b.flush(3, most, most)
		first(c.first)
		b.sync()
		first(0)
	}
}

// P13.5

func TestReady(t *testing.T) {
	for _, c := range []struct {
		page      api.Page
		eosl, dsn uint64
	}{
		{api.Page{Id: 2}, 0, 0}, {leaf(2, 0, 5), 5, 0}, {leaf(2, 3, 5), 5, 3}, {leaf(2, 3, 5, 6, 9), 9, 3}, {leaf(2, maxLsn, 0, 1), 1, maxLsn}, {leaf(2, 0, 0, maxLsn), maxLsn, 0}, {inner(2, 4), 0, 4}, {inner(2, 0), 0, 0},
	} {
		b := bothOf(t, 3, 4, leaves(3)...)
		b.put(c.page, 0)
		for _, up := range []uint64{0, 1, most - maxLsn} {
			if !b.pool.Ready(2, c.eosl+up, c.dsn+up) || !b.pool.Ready(2, c.eosl+up, c.dsn) || !b.pool.Ready(2, c.eosl, c.dsn+up) {
				t.Error(c, "is not ready")
			}
		}
		if c.eosl > 0 {
			wants(t, "a number above eosl", b.flush(2, c.eosl-1, most), api.ErrState)
			wants(t, "a number above eosl", b.flush(2, 0, most), api.ErrState)
		}
		if c.dsn > 0 {
			wants(t, "a Dsn above dsn", b.flush(2, most, c.dsn-1), api.ErrState)
			wants(t, "a Dsn above dsn", b.flush(2, most, 0), api.ErrState)
		}
		wants(t, "Flush", b.flush(2, c.eosl, c.dsn), api.OK)
		if b.on.Pending() != 1 {
			t.Error(b.on.Pending(), "writes")
		}
		b.sync()
		b.on.Crash(nil)
		v, _ := vault.Open(b.on)
		got, e := v.Get(2)
		b.is("what is durable", got, e, c.page, api.OK)
	}
}

// TestFlushOfState: a page is ready only if it is dirty and not being written.
func TestFlushOfState(t *testing.T) {
	b := bothOf(t, 4, 4, leaves(3)...)
	for _, id := range []uint64{0, 1, 4, 5, most} {
		wants(t, "no frame", b.flush(id, most, most), api.ErrNone)
		wants(t, "no frame, not ready", b.flush(id, 0, 0), api.ErrNone)
	}
	b.gets(1)
	wants(t, "not dirty", b.flush(1, most, most), api.ErrState)
	b.puts(1)
	wants(t, "Flush", b.flush(1, most, most), api.OK)
	wants(t, "being written", b.flush(1, most, most), api.ErrState)
	b.puts(1)
	wants(t, "being written, dirty", b.flush(1, most, most), api.ErrState)
	b.sync()
	b.pin(1)
	wants(t, "pinned", b.flush(1, most, most), api.OK)
	b.sync()
	wants(t, "not dirty", b.flush(1, most, most), api.ErrState)
}

// TestFlushOfVault: what the vault refuses is as it was.
func TestFlushOfVault(t *testing.T) {
	on, v := vaultOf(t, 5, leaves(4)...)
	full, _ := master.Pack(1<<63, "", 64*sectors)
	wants(t, "Write", on.Write(2*3-2, full), api.OK)
	wants(t, "Sync", on.Sync(), api.OK)
	b := bothOver(t, on, v, 5)
	wants(t, "Put", b.pool.Put(crowded(5), 7), b.want.put(crowded(5), 7))
	b.put(long(1), 8)
	b.put(leaf(2, 0, 0), 9)
	b.put(leaf(3, 0, 0), 10)
	for id, want := range map[uint64]api.Errno{5: api.ErrFull, 1: api.ErrLong, 3: api.ErrFull} {
		for range 2 {
			wants(t, "not ready", b.flush(id, most, most), want)
		}
	}
	b.lists("Changed", b.pool.Changed(), []uint64{1, 2, 3, 5})
	b.oldest(7)
	wants(t, "Drop", b.drop(5), api.OK)
	b.put(leaf(1, 0, 0), 0)
	b.cleans(1, 2)
	b.oldest(10)
	b.raise(maxLsn + 1)
	wants(t, "not valid any more", b.flush(3, maxLsn, most), api.ErrState)
	wants(t, "not valid any more", b.flush(3, maxLsn+1, most), api.ErrPage)
}

// TestFlushOfPending: a page that was being written ahead of New is not, but the vault refuses it until Sync.
func TestFlushOfPending(t *testing.T) {
	on, v := vaultOf(t, 4, leaves(4)...)
	wants(t, "vault.Put", v.Put(leaf(2, 30, 0)), api.OK)
	p, e := pool.New(v, 4)
	wants(t, "New", e, api.OK)
	wants(t, "Put", p.Put(leaf(2, 40, 0), 7), api.OK)
	wants(t, "Flush", p.Flush(2, most, most), api.ErrState)
	if !p.Ready(2, most, most) || !slices.Equal(p.Changed(), []uint64{2}) || len(p.Ways()) != 0 || on.Pending() != 1 {
		t.Error("a refused Flush changed something")
	}
	wants(t, "Sync", p.Sync(), api.OK)
	wants(t, "Flush", p.Flush(2, most, most), api.OK)
	if p.Oldest() != 7 || on.Pending() != 1 {
		t.Error(p.Oldest(), on.Pending())
	}
}

// P13.6

func TestSync(t *testing.T) {
	b := bothOf(t, 5, 4, leaves(2)...)
	wants(t, "nothing is written", b.sync(), api.OK)
	b.put(leaf(1, 0, 9), 9)
	b.put(leaf(2, 0, 8), 8)
	b.put(leaf(3, 0, 7), 7)
	wants(t, "nothing is written", b.sync(), api.OK)
	b.oldest(7)
	b.flush(3, most, most)
	b.flush(1, most, most)
	b.oldest(7)
	b.put(leaf(3, 0, 10), 10)
	b.oldest(7)
	b.sync()
	b.oldest(8)
	b.flush(2, most, most)
	b.sync()
	b.oldest(10)
	b.on.Crash(nil)
	v, _ := vault.Open(b.on)
	for _, want := range []api.Page{leaf(1, 0, 9), leaf(2, 0, 8), leaf(3, 0, 7)} {
		got, e := v.Get(want.Id)
		b.is("what is durable", got, e, want, api.OK)
	}
}

// TestSyncOfDropped: of a frame that is gone nothing is old.
func TestSyncOfDropped(t *testing.T) {
	b := bothOf(t, 4, 4)
	b.put(leaf(1, 0, 0), 5)
	b.put(leaf(2, 0, 0), 6)
	b.drop(1)
	b.oldest(6)
	b.put(leaf(1, 0, 0), 0)
	b.oldest(6)
	b.cleans(1, 2)
	b.oldest(0)
}

// P13.7

func TestRaise(t *testing.T) {
	for _, low := range []uint64{0, 1, 3, 4, 5, 6, 9, 10, maxLsn, maxLsn + 1, most} {
		b := bothOf(t, 8, 7, leaf(1, 1, 4, 5, 9), leaf(2, 2, 0), inner(3, 3), leaf(4, 4, 3, 6), leaf(5, 5, 7, 8))
		b.gets(1, 2, 3, 4)
		b.put(leaf(4, 7, 3, 6, 9), 6)
		b.put(leaf(6, 8, 0, 1, 2, 3, 4, 5, 6), 1)
		b.put(inner(7, 9), 2)
		b.flush(6, most, most)
		wants(t, "Raise", b.raise(low), api.OK)
		b.gets(5)
		want := map[uint64]api.Lsns{5: {Low: 7, In: []uint64{8}}}
		for id, set := range map[uint64]api.Lsns{1: {Low: 4, In: []uint64{5, 9}}, 2: {}, 4: {Low: 3, In: []uint64{6, 9}}, 6: {In: []uint64{1, 2, 3, 4, 5, 6}}} {
			want[id] = api.Lsns{Low: max(set.Low, low), In: slices.DeleteFunc(set.In, func(n uint64) bool { return n <= low })}
		}
		for id := uint64(1); id <= 7; id++ {
			if q, e := b.pool.Get(id); e != api.OK || !lsns.Same(q.Set, want[id]) {
				t.Errorf("raised to %d: %d has %v, not %v", low, id, q.Set, want[id])
			}
		}
		b.sync()
		b.drop(6)
		if q, e := b.pool.Get(6); e != api.OK || len(q.Set.In) != 6 || q.Set.Low != 0 {
			t.Error("what was written is raised:", q.Set)
		}
	}
}

// TestRaiseOfNothing: nothing but the Sets changes: no frame is dirty or touched by it.
func TestRaiseOfNothing(t *testing.T) {
	b := bothOf(t, 6, 4, leaves(6)...)
	wants(t, "no frames", b.raise(9), api.OK)
	b.gets(1, 2, 3, 4, 5)
	b.raise(300)
	b.gets(6)
	b.has(3, 4, 5, 6)
	b.lists("Changed", b.pool.Changed(), nil)
	q, e := b.pool.Get(2)
	b.is("evicted and read again", q, e, leaves(6)[1], api.OK)
}

// R5

// TestPagesAreNew: what was returned stays as it is, and shares nothing with what is returned next.
func TestPagesAreNew(t *testing.T) {
	want := leaf(1, 1, 1, 5, 9)
	for name, begin := range map[string]func(b *both){
		"from the vault": func(b *both) { b.gets(1) },
		"put":            func(b *both) { b.put(want, 0) },
	} {
		b := bothOf(t, 4, 4, want)
		begin(b)
		first, _ := b.pool.Get(1)
		second, _ := b.pool.Get(1)
		third, _ := b.pool.Look(1)
		spoil(second)
		b.is(name+": Get", first, api.OK, want, api.OK)
		b.is(name+": Look", third, api.OK, want, api.OK)
		spoil(third)
		b.raise(2)
		b.is(name+": Get", first, api.OK, want, api.OK)
		spoil(first)
		b.same(name + ": spoiled")
	}
}

// TestPoolsApart: pools over two vaults have nothing in common.
func TestPoolsApart(t *testing.T) {
	first, second := bothOf(t, 4, 4, leaves(4)...), bothOf(t, 5, 5, leaves(5)...)
	first.gets(1, 2, 3)
	first.pin(3)
	first.puts(4)
	second.same("first")
	second.gets(5, 4)
	second.puts(2, 1)
	second.flush(1, most, most)
	second.raise(400)
	first.same("second")
	first.cleans(4)
	second.same("first")
}

// P13.8, P13.9, P13.10

// deeds is what was done to each page, from which it is told what is promised of it.
type deeds struct {
	b    *both
	last map[uint64]api.Page
	// open are the numbers with which pages were put that were not flushed since, late those that were not synced since.
	open, late map[uint64][]uint64
	pins       map[uint64]int
}

func (d *deeds) put(q api.Page, lsn uint64) {
	if d.b.put(q, lsn) == api.OK {
		d.last[q.Id] = q
		d.open[q.Id] = append(d.open[q.Id], lsn)
	}
}

func (d *deeds) drop(id uint64) {
	before, e := d.b.want.vault.Get(id)
	if d.b.drop(id) != api.OK {
		return
	}
	delete(d.last, id)
	delete(d.open, id)
	if e == api.OK {
		d.last[id] = before
	}
}

// flush checks the gate: what is written has nothing above eosl and dsn.
func (d *deeds) flush(id, eosl, dsn uint64) {
	t, pending := d.b.t, d.b.on.Pending()
	if d.b.flush(id, eosl, dsn) != api.OK {
		if d.b.on.Pending() != pending {
			t.Fatal("a refused page was written")
		}
		return
	}
	d.late[id], d.open[id] = append(d.late[id], d.open[id]...), nil
	v, _ := vault.Open(d.b.on.Copy())
	q, e := v.Get(id)
	if d.b.on.Pending() != pending+1 || e != api.OK || q.Dsn > dsn || lsns.Most(q.Set) > eosl {
		t.Fatalf("flushed with %d and %d: %v", eosl, dsn, q)
	}
}

// promised checks what is promised at all times.
func (d *deeds) promised() {
	t, p := d.b.t, d.b.pool
	oldest := p.Oldest()
	for _, numbers := range []map[uint64][]uint64{d.open, d.late} {
		for id, l := range numbers {
			if n := least(l...); n > 0 && (oldest == 0 || n < oldest) {
				t.Fatalf("%d of page %d is below the oldest, %d", n, id, oldest)
			}
		}
	}
	ids := p.Ids()
	for _, l := range [][]uint64{p.Changed(), p.Ways(), slices.Collect(maps.Keys(d.pins))} {
		for _, id := range l {
			if !slices.Contains(ids, id) {
				t.Fatal(id, "is gone")
			}
		}
	}
	for id, want := range d.last {
		got, e := p.Look(id)
		raised := page.Same(got, withSet(want, got.Set)) && isRaised(want.Set, got.Set)
		if e != api.OK || !raised {
			t.Fatalf("page %d is %v, %v, not %v", id, got, e, want)
		}
	}
}

func withSet(p api.Page, set api.Lsns) api.Page {
	p.Set = set
	return p
}

// isRaised reports whether one set is another one that was raised, or not.
func isRaised(set, raised api.Lsns) bool {
	want, e := lsns.Raise(set, raised.Low)
	return e == api.OK && lsns.Same(want, raised)
}

func (d *deeds) pin(id uint64) {
	if d.b.pin(id) == api.OK {
		d.pins[id]++
	}
}

func (d *deeds) unpin(id uint64) {
	if d.b.unpin(id) != api.OK {
		return
	}
	if d.pins[id]--; d.pins[id] == 0 {
		delete(d.pins, id)
	}
}

// random does one of the calls.
func (d *deeds) random(r *rand.Rand) {
	b := d.b
	id := uint64(r.Intn(b.on.Blocks()/2 + 2))
	switch r.Intn(20) {
	case 0, 1, 2, 3, 4, 5:
		b.get(id)
	case 6, 7:
		q := leaf(id, uint64(r.Intn(4)), uint64(r.Intn(4)), 4+uint64(r.Intn(3)), 7+uint64(r.Intn(5)))
		if r.Intn(4) == 0 {
			q = inner(id, q.Dsn)
		}
		d.put(q, uint64(r.Intn(12)))
	case 8:
		d.drop(id)
	case 9:
		d.pin(id)
	case 10, 11:
		d.unpin(id)
	case 12, 13, 14, 15:
		d.flush(id, uint64(r.Intn(14)), uint64(r.Intn(5)))
	case 16, 17:
		b.sync()
		clear(d.late)
	case 18:
		b.raise(uint64(r.Intn(9)))
	case 19:
		b.make(r.Intn(b.want.limit+3) - 1)
	}
	d.promised()
}

// TestRandomCalls holds pools against the Terms, and against what is promised of all of them.
func TestRandomCalls(t *testing.T) {
	r := rand.New(rand.NewSource(131))
	for range 120 {
		places := 5 + r.Intn(5)
		pages := leaves(uint64(places))
		b := bothOf(t, places, 4+r.Intn(3), pages...)
		d := &deeds{b, map[uint64]api.Page{}, map[uint64][]uint64{}, map[uint64][]uint64{}, map[uint64]int{}}
		for _, q := range pages {
			d.last[q.Id] = q
		}
		for range 150 {
			d.random(r)
		}
	}
}

// The chapter's table

func TestExamples(t *testing.T) {
	b := bothOf(t, 4, 4, api.Page{Id: 1})
	p := b.pool
	wants(t, "Get(1)", b.get(1), api.OK)
	wants(t, "Get(2)", b.get(2), api.ErrNone)
	wants(t, "Put({Id 2}, 7)", b.put(api.Page{Id: 2}, 7), api.OK)
	b.oldest(7)
	b.lists("Changed", p.Changed(), []uint64{2})
	if !p.Ready(2, 0, 0) {
		t.Error("2 is not ready")
	}
	wants(t, "Flush(2, 0, 0)", b.flush(2, 0, 0), api.OK)
	b.oldest(7)
	b.lists("Ways", p.Ways(), []uint64{2})
	wants(t, "Sync", b.sync(), api.OK)
	b.oldest(0)
	wants(t, "Put({Id 2, Set 5}, 5)", b.put(api.Page{Id: 2, Set: api.Lsns{Low: 5}}, 5), api.OK)
	wants(t, "Flush(2, 4, 0)", b.flush(2, 4, 0), api.ErrState)
	wants(t, "Flush(2, 5, 0)", b.flush(2, 5, 0), api.OK)
}

package vault_test

import (
	"fmt"
	"maps"
	"math"
	"math/rand"
	"slices"
	"strings"
	"testing"

	"lockkeeper/api"
	"lockkeeper/block"
	"lockkeeper/master"
	"lockkeeper/page"
	"lockkeeper/vault"
)

const (
	sector     = 64
	piece      = 56
	maxPlaces  = 400
	maxBlocks  = 1000
	maxSectors = 256
	full       = uint64(1) << 63
	// emptySize is the bytes of a leaf without cells, oneCell what a cell has besides its value if its key is one byte.
	emptySize = 34
	oneCell   = 9
)

func wants(t *testing.T, name string, got, want api.Errno) {
	t.Helper()
	if got != want {
		t.Errorf("%s: %v, not %v", name, got, want)
	}
}

// none returns what is no object.
func none() map[string]*vault.Vault { return map[string]*vault.Vault{"nil": nil, "zero": {}} }

// empty is a leaf without cells, which fits into one sector.
func empty(id uint64) api.Page { return api.Page{Id: id} }

// noted is a page that fits into one sector and that a number tells from others.
func noted(id, n uint64) api.Page { return api.Page{Id: id, Dsn: n % (1 << 40)} }

// sized is a leaf with so many bytes, which has one cell.
func sized(id uint64, size int) api.Page {
	value := make([]byte, size-emptySize-oneCell)
	for i := range value {
		value[i] = byte(i*i*7 + size)
	}
	return api.Page{Id: id, Cells: []api.Cell{{Key: "a", Value: string(value)}}}
}

// large is a leaf of up to about 14000 bytes, in cells of 2000 bytes.
func large(id uint64, size int) api.Page {
	p := sized(id, emptySize+oneCell+size%2000)
	for i := range size / 2000 {
		p.Cells = append(p.Cells, api.Cell{Key: "b" + string(rune('0'+i)), Value: strings.Repeat("v", 2000-oneCell-1)})
	}
	return p
}

// crowded is a valid leaf with one cell too many for layer 11.
func crowded(id uint64) api.Page {
	p := empty(id)
	for i := range 1 << 16 {
		p.Cells = append(p.Cells, api.Cell{Key: string([]byte{byte(i >> 8), byte(i)})})
	}
	return p
}

// kinds returns pages of all kinds with that number, each of which fits into ten sectors.
func kinds(id uint64) []api.Page {
	child, _ := page.Kid(9)
	right := id%maxPlaces + 1
	return []api.Page{
		empty(id), sized(id, 43), sized(id, 300), noted(id, 77),
		{Id: id, Right: right, Low: "b", High: "d", End: true, Dsn: 7, Set: api.Lsns{Low: 3, In: []uint64{5, 8, 90}}, Cells: []api.Cell{{Key: "b", Value: "x"}, {Key: "c"}}},
		{Id: id, Right: right, Level: 2, Low: "b", High: "q", End: true, Dsn: 9, Cells: []api.Cell{{Key: "b", Value: child}, {Key: "m", Value: child}}},
		{Id: id, Level: 10, Cells: []api.Cell{{Value: child}}},
	}
}

// packed is a string on a block.
func packed(t *testing.T, version uint64, s string, sectors int) string {
	t.Helper()
	b, e := master.Pack(version, s, sectors*sector)
	wants(t, "Pack", e, api.OK)
	return b
}

// stored is a page on a block.
func stored(t *testing.T, version uint64, p api.Page, sectors int) string {
	t.Helper()
	s, e := page.Put(p)
	wants(t, "page.Put", e, api.OK)
	return packed(t, version, s, sectors)
}

// deviceOf returns a device with some durable bytes in its blocks, by their numbers.
func deviceOf(t *testing.T, blocks, sectors int, bytes map[int]string) *block.Dev {
	t.Helper()
	on, e := block.New(blocks, sectors)
	wants(t, "New", e, api.OK)
	for b, s := range bytes {
		wants(t, "Write", on.Write(b, s), api.OK)
	}
	wants(t, "Sync", on.Sync(), api.OK)
	return on
}

// plain is a vault as the chapter's Terms define it, and what its device must be like.
type plain struct {
	on        *block.Dev
	now, next map[uint64]api.Page
	// sides is the block, 0 or 1, of each page in now.
	sides, nextSides map[uint64]int
}

func plainOpened(on *block.Dev) *plain {
	p := &plain{on.Copy(), map[uint64]api.Page{}, map[uint64]api.Page{}, map[uint64]int{}, map[uint64]int{}}
	for id := uint64(1); id <= p.places(); id++ {
		first, u := p.held(id, 0)
		second, v := p.held(id, 1)
		switch {
		case u == 0 && v == 0:
		case u >= v:
			p.now[id], p.sides[id] = first, 0
		default:
			p.now[id], p.sides[id] = second, 1
		}
	}
	return p
}

func (p *plain) places() uint64 { return uint64(min(p.on.Blocks()/2, maxPlaces)) }

func (p *plain) bytes(id uint64, side int) string {
	s, _ := p.on.Read(int(id)*2 - 2 + side)
	return s
}

// held returns the page that one of its blocks holds, and its version, 0 if it holds none.
func (p *plain) held(id uint64, side int) (api.Page, uint64) {
	version, s, is := master.Unpack(p.bytes(id, side))
	q, e := page.Get(s)
	if !is || e != api.OK || q.Id != id {
		return api.Page{}, 0
	}
	return q, version
}

func (p *plain) top(id uint64) uint64 {
	return max(master.Top(p.bytes(id, 0)), master.Top(p.bytes(id, 1)))
}

func (p *plain) get(id uint64) (api.Page, api.Errno) {
	q, is := p.now[id]
	switch {
	case id < 1 || id > p.places():
		return api.Page{}, api.ErrArg
	case !is:
		return api.Page{}, api.ErrNone
	}
	return q, api.OK
}

func (p *plain) put(q api.Page) api.Errno {
	if page.Check(q) != api.OK {
		return api.ErrPage
	}
	if q.Id > p.places() {
		return api.ErrArg
	}
	if _, is := p.next[q.Id]; is {
		return api.ErrState
	}
	if len(q.Cells) > 65535 {
		return api.ErrFull
	}
	s, _ := page.Put(q)
	if len(s) > p.on.Size()/sector*piece-4 {
		return api.ErrLong
	}
	if p.top(q.Id) >= full {
		return api.ErrFull
	}
	side := 1
	if at, is := p.sides[q.Id]; is && at == 1 {
		side = 0
	}
	b, _ := master.Pack(p.top(q.Id)+1, s, p.on.Size())
	p.next[q.Id], p.nextSides[q.Id] = q, side
	return p.on.Write(int(q.Id)*2-2+side, b)
}

func (p *plain) sync() api.Errno {
	maps.Copy(p.now, p.next)
	maps.Copy(p.sides, p.nextSides)
	clear(p.next)
	clear(p.nextSides)
	return p.on.Sync()
}

// same checks all that can be seen of a vault and of its device.
func (p *plain) same(t *testing.T, name string, v *vault.Vault, on *block.Dev) {
	t.Helper()
	if v.Places() != int(p.places()) {
		t.Fatalf("%s: %d places, not %d", name, v.Places(), p.places())
	}
	if ids := slices.Sorted(maps.Keys(p.now)); !slices.Equal(v.Ids(), ids) {
		t.Fatalf("%s: Ids: %d, not %d", name, v.Ids(), ids)
	}
	if ways := slices.Sorted(maps.Keys(p.next)); !slices.Equal(v.Ways(), ways) {
		t.Fatalf("%s: Ways: %d, not %d", name, v.Ways(), ways)
	}
	for id := range p.places() + 2 {
		got, e := v.Get(id)
		want, f := p.get(id)
		if e != f || !page.Same(got, want) {
			t.Fatalf("%s: Get(%d): %v, %v, not %v, %v", name, id, got, e, want, f)
		}
	}
	sameDevice(t, name, on, p.on)
	durable, want := on.Copy(), p.on.Copy()
	durable.Crash(nil)
	want.Crash(nil)
	sameDevice(t, name+", what is durable", durable, want)
}

func sameDevice(t *testing.T, name string, got, want *block.Dev) {
	t.Helper()
	if got.Pending() != want.Pending() {
		t.Fatalf("%s: %d writes are pending, not %d", name, got.Pending(), want.Pending())
	}
	for b := range want.Blocks() {
		s, _ := got.Read(b)
		if r, _ := want.Read(b); s != r {
			t.Fatalf("%s: block %d has %x, not %x", name, b, s, r)
		}
	}
}

// puts puts a page into a vault and into what it must be like.
func (p *plain) puts(t *testing.T, name string, v *vault.Vault, on *block.Dev, q api.Page) {
	t.Helper()
	name = fmt.Sprintf("%s: Put %d", name, q.Id)
	got := v.Put(q)
	wants(t, name, got, p.put(q))
	p.same(t, name, v, on)
}

func (p *plain) syncs(t *testing.T, name string, v *vault.Vault, on *block.Dev) {
	t.Helper()
	got := v.Sync()
	wants(t, name+": Sync", got, p.sync())
	p.same(t, name+": Sync", v, on)
}

// opened opens a device, which must have a vault.
func opened(t *testing.T, name string, on *block.Dev) (*vault.Vault, *plain) {
	t.Helper()
	p := plainOpened(on)
	v, e := vault.Open(on)
	if v == nil || e != api.OK {
		t.Fatalf("%s: Open: %v", name, e)
	}
	p.same(t, name+": Open", v, on)
	return v, p
}

// holds checks one page of a vault.
func holds(t *testing.T, name string, v *vault.Vault, want api.Page) {
	t.Helper()
	if got, e := v.Get(want.Id); e != api.OK || !page.Same(got, want) {
		t.Errorf("%s: page %d is %v, %v, not %v", name, want.Id, got, e, want)
	}
}

// lists checks the current pages, and those that are being written.
func lists(t *testing.T, name string, v *vault.Vault, ids, ways []uint64) {
	t.Helper()
	if !slices.Equal(v.Ids(), ids) || !slices.Equal(v.Ways(), ways) {
		t.Errorf("%s: %d are current, %d are being written, not %d and %d", name, v.Ids(), v.Ways(), ids, ways)
	}
}

// P12.1

func TestOpenOfNoDevice(t *testing.T) {
	for name, on := range map[string]*block.Dev{"nil": nil, "zero": {}} {
		v, e := vault.Open(on)
		wants(t, name, e, api.ErrNil)
		if v != nil {
			t.Error(name, "has a vault")
		}
	}
}

func TestOpenOfOneBlock(t *testing.T) {
	for _, bytes := range []string{"", "other", stored(t, 3, empty(1), 2)} {
		on := deviceOf(t, 1, 2, map[int]string{0: bytes})
		before := on.Copy()
		v, e := vault.Open(on)
		wants(t, "one block", e, api.ErrArg)
		if v != nil {
			t.Error("one block has a vault")
		}
		sameDevice(t, "one block", on, before)
	}
}

func TestPlaces(t *testing.T) {
	for blocks, places := range map[int]int{2: 1, 3: 1, 4: 2, 5: 2, 6: 3, 16: 8, 17: 8, 799: 399, 800: 400, 801: 400, 802: 400, 803: 400, 999: 400, maxBlocks: 400} {
		v, _ := opened(t, fmt.Sprint(blocks, " blocks"), deviceOf(t, blocks, 1, nil))
		if v.Places() != places {
			t.Errorf("%d blocks: %d places, not %d", blocks, v.Places(), places)
		}
		lists(t, "new", v, nil, nil)
	}
}

// contents are what a block of page 2, of two sectors, may have: pages of several versions, and what is no page.
func contents(t *testing.T) []string {
	valid, e := page.Put(noted(2, 5))
	wants(t, "page.Put", e, api.OK)
	torn := stored(t, 9, sized(2, 100), 2)[:sector] + stored(t, 8, sized(2, 100), 2)[sector:]
	return []string{
		"", "other", strings.Repeat("\xff", 2*sector), torn, stored(t, 9, noted(2, 1), 1), valid,
		packed(t, 9, "", 2), packed(t, 9, "no page", 2), packed(t, 9, valid+"\x00", 2), packed(t, 9, valid[1:], 2), packed(t, 9, "\x01"+valid[1:], 2),
		stored(t, 9, empty(1), 2), stored(t, 9, empty(3), 2), stored(t, 9, noted(maxPlaces, 7), 2),
		stored(t, 1, noted(2, 1), 2), stored(t, 2, noted(2, 2), 2), stored(t, 2, sized(2, 108), 2),
		stored(t, 8, noted(2, 8), 2), stored(t, full-1, noted(2, 3), 2), stored(t, full, noted(2, 4), 2), stored(t, math.MaxUint64, noted(2, 6), 2),
	}
}

// TestOpenOfContents: of two pages the one with the greater version is current, the first one if both have the same.
func TestOpenOfContents(t *testing.T) {
	all, current := contents(t), 0
	for i, first := range all {
		for j, second := range all {
			v, _ := opened(t, fmt.Sprint("contents ", i, " and ", j), deviceOf(t, 6, 2, map[int]string{1: stored(t, 4, noted(1, 11), 2), 2: first, 3: second, 4: stored(t, 5, noted(3, 33), 2)}))
			holds(t, "page 1", v, noted(1, 11))
			holds(t, "page 3", v, noted(3, 33))
			if len(v.Ids()) == 3 {
				current++
			}
		}
	}
	if pages := 7; current != len(all)*len(all)-(len(all)-pages)*(len(all)-pages) {
		t.Error(current, "of", len(all)*len(all), "have the page")
	}
}

// TestOpenOfVersions names the page that is current, for each way that it may hang on the versions.
func TestOpenOfVersions(t *testing.T) {
	other := packed(t, 9, "no page", 1)
	first, second := noted(1, 10), noted(1, 20)
	for _, c := range []struct {
		name, first, second string
		want                api.Page
	}{
		{"the first one alone", stored(t, 5, first, 1), "", first},
		{"the second one alone", "", stored(t, 5, second, 1), second},
		{"the first one is greater", stored(t, 6, first, 1), stored(t, 5, second, 1), first},
		{"the second one is greater", stored(t, 5, first, 1), stored(t, 6, second, 1), second},
		{"the same version", stored(t, 5, first, 1), stored(t, 5, second, 1), first},
		{"the greatest version twice", stored(t, math.MaxUint64, first, 1), stored(t, math.MaxUint64, second, 1), first},
		{"versions of two bytes", stored(t, 0x100, first, 1), stored(t, 0xff, second, 1), first},
		{"a greater one that is no page", stored(t, 5, first, 1), other, first},
		{"a greater one that is another page", stored(t, 9, empty(2), 1), stored(t, 5, second, 1), second},
	} {
		v, _ := opened(t, c.name, deviceOf(t, 4, 1, map[int]string{0: c.first, 1: c.second}))
		holds(t, c.name, v, c.want)
		lists(t, c.name, v, []uint64{1}, nil)
	}
}

// TestOpenOfPlaces: each page stands in blocks of its own, and not in others'.
func TestOpenOfPlaces(t *testing.T) {
	for _, id := range []uint64{1, 2, 3, 10, 128, 129, 255, 256, 257, 399, 400} {
		first := 2*int(id) - 2
		for b := range maxBlocks {
			isNear := b >= first-6 && b <= first+7
			if isEdge := b < 3 || b > 796 && b < 805 || b == maxBlocks-1; !isNear && !isEdge {
				continue
			}
			v, e := vault.Open(deviceOf(t, maxBlocks, 1, map[int]string{b: stored(t, 1, noted(id, 99), 1)}))
			wants(t, "Open", e, api.OK)
			if b != first && b != first+1 {
				lists(t, fmt.Sprint("page ", id, " in block ", b), v, nil, nil)
				continue
			}
			holds(t, fmt.Sprint("block ", b), v, noted(id, 99))
			lists(t, fmt.Sprint("block ", b), v, []uint64{id}, nil)
		}
	}
}

func TestIdsAscend(t *testing.T) {
	bytes := map[int]string{}
	var want []uint64
	for id := uint64(1); id <= maxPlaces; id++ {
		bytes[int(id)*2-1-int(id%2)] = stored(t, id, noted(id, id), 1)
		want = append(want, id)
	}
	v, _ := opened(t, "all pages", deviceOf(t, maxBlocks, 1, bytes))
	for range 5 {
		lists(t, "all pages", v, want, nil)
	}
	l := v.Ids()
	l[0], l = 77, append(l, 78)
	lists(t, "a list was changed", v, want, nil)
	if cap(l) > len(l) && &l[:cap(l)][0] == &v.Ids()[0] {
		t.Error("two lists share their memory")
	}
}

// TestOpenWithPendingWrites: what is visible counts, and Open does not sync.
func TestOpenWithPendingWrites(t *testing.T) {
	on := deviceOf(t, 2, 1, map[int]string{0: stored(t, 1, noted(1, 1), 1)})
	wants(t, "Write", on.Write(1, stored(t, 2, noted(1, 2), 1)), api.OK)
	v, _ := opened(t, "a pending write", on)
	holds(t, "a pending write", v, noted(1, 2))
	if on.Pending() != 1 {
		t.Error(on.Pending(), "writes are pending")
	}
}

// TestOpenAgain: a vault that is opened again has no page that is being written.
func TestOpenAgain(t *testing.T) {
	on := deviceOf(t, 4, 1, nil)
	v, p := opened(t, "new", on)
	p.puts(t, "new", v, on, empty(1))
	on.Crash(nil)
	v, p = opened(t, "again", on)
	lists(t, "again", v, nil, nil)
	p.puts(t, "again", v, on, empty(1))
}

func TestNone(t *testing.T) {
	for name, v := range none() {
		for range 2 {
			if v.Places() != 0 || len(v.Ids()) != 0 || len(v.Ways()) != 0 {
				t.Error(name, "has places or pages")
			}
			for _, id := range []uint64{0, 1, maxPlaces, math.MaxUint64} {
				p, e := v.Get(id)
				wants(t, name, e, api.ErrNil)
				if !page.Same(p, api.Page{}) {
					t.Error(name, p)
				}
			}
			for _, p := range []api.Page{{}, empty(1), large(1, 14000), crowded(1), {Id: 401}} {
				wants(t, name, v.Put(p), api.ErrNil)
			}
			wants(t, name, v.Sync(), api.ErrNil)
		}
	}
}

// P12.2

func TestGetOfNoPlace(t *testing.T) {
	for _, blocks := range []int{2, 3, 4, 5, 800, maxBlocks} {
		places := uint64(min(blocks/2, maxPlaces))
		v, e := vault.Open(deviceOf(t, blocks, 1, nil))
		wants(t, "Open", e, api.OK)
		for _, id := range []uint64{0, places + 1, places + 2, maxPlaces + 1, 500, 501, 1 << 31, 1<<32 + 1, 1 << 63, 1<<63 + 1, math.MaxUint64} {
			p, e := v.Get(id)
			wants(t, fmt.Sprint(blocks, " blocks: Get of ", id), e, api.ErrArg)
			if !page.Same(p, api.Page{}) {
				t.Error(id, p)
			}
		}
		for _, id := range []uint64{1, places} {
			p, e := v.Get(id)
			wants(t, fmt.Sprint(blocks, " blocks: Get of ", id), e, api.ErrNone)
			if !page.Same(p, api.Page{}) {
				t.Error(id, p)
			}
		}
	}
}

// TestGetOfKinds: pages of all kinds are what they were.
func TestGetOfKinds(t *testing.T) {
	for _, id := range []uint64{1, 2, 3, 8} {
		on := deviceOf(t, 16, 10, nil)
		v, p := opened(t, "kinds", on)
		for _, q := range kinds(id) {
			p.puts(t, "kinds", v, on, q)
			p.syncs(t, "kinds", v, on)
			holds(t, "kinds", v, q)
			opened(t, "kinds again", on.Copy())
		}
	}
}

// TestGetIsNew: what Get returned may be changed.
func TestGetIsNew(t *testing.T) {
	on := deviceOf(t, 2, 10, nil)
	v, p := opened(t, "new", on)
	want := kinds(1)[4]
	p.puts(t, "new", v, on, want)
	p.syncs(t, "new", v, on)
	for range 3 {
		q, e := v.Get(1)
		wants(t, "Get", e, api.OK)
		q.Set.In[0], q.Cells[0] = 6, api.Cell{Key: "bb", Value: "other"}
		_, _ = append(q.Set.In, 99), append(q.Cells, api.Cell{Key: "z"})
		p.same(t, "what was returned is changed", v, on)
	}
}

// P12.3

// TestPutOfContents: a page is put on the block that does not hold the current one, above all stamps, whatever the blocks have.
func TestPutOfContents(t *testing.T) {
	all := contents(t)
	for i, first := range all {
		for j, second := range all {
			name := fmt.Sprint("contents ", i, " and ", j)
			on := deviceOf(t, 6, 2, map[int]string{0: stored(t, 40, noted(1, 11), 2), 2: first, 3: second, 4: stored(t, full, noted(3, 33), 2)})
			v, p := opened(t, name, on)
			for _, q := range []api.Page{sized(2, 109), noted(2, 50), noted(2, 51), sized(2, 108), empty(2)} {
				p.puts(t, name, v, on, q)
				p.puts(t, name, v, on, q)
				p.puts(t, name, v, on, noted(2, 52))
				p.syncs(t, name, v, on)
				opened(t, name, on.Copy())
			}
		}
	}
}

// TestPutOfBlock names the block and the version of what is put, for each way that they may hang on the blocks.
func TestPutOfBlock(t *testing.T) {
	a, b := stored(t, 4, noted(2, 10), 1), stored(t, 6, noted(2, 20), 1)
	torn, other := b[:8]+"torn", stored(t, 9, empty(1), 1)
	for _, c := range []struct {
		name, first, second string
		side                int
		version             uint64
	}{
		{"new", "", "", 1, 1},
		{"the first one alone", a, "", 1, 5},
		{"the second one alone", "", a, 0, 5},
		{"the first one is greater", b, a, 1, 7},
		{"the second one is greater", a, b, 0, 7},
		{"the same version", a, stored(t, 4, noted(2, 30), 1), 1, 5},
		{"the same page", a, stored(t, 5, noted(2, 10), 1), 0, 6},
		{"the first one is torn", torn, a, 0, 7},
		{"the second one is torn", a, torn, 1, 7},
		{"both are torn", torn, torn, 1, 7},
		{"only the first one is there, and torn", torn, "", 1, 7},
		{"only the second one is there, and torn", "", torn, 1, 7},
		{"the first one is another page", other, b, 0, 10},
		{"the second one is another page", b, other, 1, 10},
		{"the second one is another page, the first one nothing", "", other, 1, 10},
		{"the first one is another page, the second one nothing", other, "", 1, 10},
	} {
		on := deviceOf(t, 6, 1, map[int]string{0: "x", 1: "x", 2: c.first, 3: c.second, 4: "x", 5: "x"})
		want := on.Copy()
		wants(t, c.name, want.Write(2+c.side, stored(t, c.version, noted(2, 40), 1)), api.OK)
		v, _ := opened(t, c.name, on)
		wants(t, c.name, v.Put(noted(2, 40)), api.OK)
		sameDevice(t, c.name, on, want)
		wants(t, c.name, v.Sync(), api.OK)
		holds(t, c.name, v, noted(2, 40))
	}
}

// TestPutIsNotCurrent: until it is synced, a page is what it was, and is being written.
func TestPutIsNotCurrent(t *testing.T) {
	on := deviceOf(t, 8, 2, map[int]string{4: stored(t, 1, noted(3, 1), 2)})
	v, p := opened(t, "new", on)
	for _, id := range []uint64{4, 1, 3} {
		p.puts(t, "new", v, on, noted(id, 50+id))
	}
	lists(t, "three pages", v, []uint64{3}, []uint64{1, 3, 4})
	holds(t, "three pages", v, noted(3, 1))
	if on.Pending() != 3 {
		t.Error(on.Pending(), "writes are pending")
	}
	l := v.Ways()
	l[0] = 77
	lists(t, "a list was changed", v, []uint64{3}, []uint64{1, 3, 4})
	p.syncs(t, "three pages", v, on)
	lists(t, "synced", v, []uint64{1, 3, 4}, nil)
}

func TestWaysAscend(t *testing.T) {
	on := deviceOf(t, maxBlocks, 1, nil)
	v, e := vault.Open(on)
	wants(t, "Open", e, api.OK)
	var want []uint64
	for i := range uint64(maxPlaces) {
		id := i*171%maxPlaces + 1
		wants(t, fmt.Sprint("Put ", id), v.Put(noted(id, id)), api.OK)
		want = append(want, i+1)
	}
	for range 5 {
		lists(t, "all pages", v, nil, want)
	}
	wants(t, "Sync", v.Sync(), api.OK)
	lists(t, "all pages", v, want, nil)
	opened(t, "all pages", on)
}

// TestPutKeepsNothing: a page that was put may be changed, as it may be after any call.
func TestPutKeepsNothing(t *testing.T) {
	on := deviceOf(t, 2, 10, nil)
	v, p := opened(t, "new", on)
	q, want := kinds(1)[4], kinds(1)[4]
	q.Set.In, q.Cells = slices.Grow(q.Set.In, 5), slices.Grow(q.Cells, 5)
	wants(t, "Put", v.Put(q), p.put(want))
	if !page.Same(q, want) || q.Cells[:3][2] != (api.Cell{}) || q.Set.In[:4][3] != 0 {
		t.Error("the page was changed:", q)
	}
	q.Set.In[1], q.Cells[1].Value = 9, "other"
	p.same(t, "put", v, on)
	p.syncs(t, "put", v, on)
	holds(t, "put", v, want)
}

// TestPutOfSizes: no page fits that has one byte more than 56 for each sector, less 4.
func TestPutOfSizes(t *testing.T) {
	for sectors := 1; sectors <= 4; sectors++ {
		on := deviceOf(t, 2, sectors, nil)
		v, p := opened(t, "sizes", on)
		room := sectors*piece - 4
		for size := emptySize + oneCell; size < room+70; size++ {
			got := v.Put(sized(1, size))
			if want := api.ErrLong; size > room {
				wants(t, fmt.Sprint(size, " bytes in ", sectors, " sectors"), got, want)
			} else {
				wants(t, fmt.Sprint(size, " bytes in ", sectors, " sectors"), got, p.put(sized(1, size)))
			}
			p.syncs(t, "sizes", v, on)
		}
	}
}

func TestPutOfGreatestBlocks(t *testing.T) {
	on := deviceOf(t, 4, maxSectors, nil)
	v, p := opened(t, "greatest", on)
	room, fits, above := maxSectors*piece-4, 0, 0
	for size := 13900; size < 14400; size += 7 {
		q := large(2, size)
		s, e := page.Put(q)
		wants(t, "page.Put", e, api.OK)
		if len(s) > room {
			above++
		} else {
			fits++
		}
		p.puts(t, "greatest", v, on, q)
		p.syncs(t, "greatest", v, on)
	}
	if fits < 10 || above < 10 {
		t.Error(fits, "fit", above, "do not")
	}
	opened(t, "greatest again", on)
}

// TestPutOfWrongPages: a page that is not valid is refused first, and then one that has no place.
func TestPutOfWrongPages(t *testing.T) {
	for _, blocks := range []int{2, 5, maxBlocks} {
		on := deviceOf(t, blocks, 1, map[int]string{0: stored(t, 1, noted(1, 1), 1)})
		v, p := opened(t, "wrong", on)
		places := p.places()
		wrong := []api.Page{{}, {Id: maxPlaces + 1}, {Id: math.MaxUint64}, {Id: 1<<32 + 1}, {Id: 1, Right: 1}, {Id: 1, Level: 11}, {Id: 1, Level: 1}, {Id: 1, Dsn: 1<<48 + 1},
			{Id: 1, Set: api.Lsns{Low: 5, In: []uint64{5}}}, {Id: 1, Cells: []api.Cell{{Key: "b"}, {Key: "a"}}}, {Id: places + 1, Right: 4}, {Id: maxPlaces, Level: 12}}
		for i, q := range wrong {
			wants(t, fmt.Sprint(blocks, " blocks, wrong page ", i), v.Put(q), api.ErrPage)
		}
		for id := places + 1; id <= maxPlaces; id++ {
			wants(t, fmt.Sprint(blocks, " blocks, page ", id), v.Put(empty(id)), api.ErrArg)
		}
		p.same(t, "refused", v, on)
		wants(t, "Put", v.Put(noted(1, 2)), p.put(noted(1, 2)))
		for i, q := range wrong {
			wants(t, fmt.Sprint(blocks, " blocks, being written, wrong page ", i), v.Put(q), api.ErrPage)
		}
		p.same(t, "refused again", v, on)
	}
}

// TestErrorsOfPut: each error comes ahead of those behind it.
func TestErrorsOfPut(t *testing.T) {
	wrong := crowded(1)
	wrong.Dsn = math.MaxUint64
	apart := crowded(3)
	apart.Level = 1
	long := sized(1, 3*sector)
	for _, top := range []uint64{full, full + 1, math.MaxUint64 - 1, math.MaxUint64} {
		on := deviceOf(t, 4, 1, map[int]string{0: stored(t, 3, noted(1, 1), 1), 1: stored(t, top, empty(2), 1)})
		v, p := opened(t, "full", on)
		wants(t, "not valid, too many cells", v.Put(wrong), api.ErrPage)
		wants(t, "not valid, no place, too many cells", v.Put(apart), api.ErrPage)
		wants(t, "no place, too many cells", v.Put(crowded(3)), api.ErrArg)
		wants(t, "no place, too long", v.Put(large(3, 5000)), api.ErrArg)
		wants(t, "too many cells, too long, full", v.Put(crowded(1)), api.ErrFull)
		wants(t, "too long, full", v.Put(long), api.ErrLong)
		wants(t, "full", v.Put(empty(1)), api.ErrFull)
		p.same(t, "refused", v, on)
	}
	on := deviceOf(t, 4, 1, map[int]string{1: stored(t, full-2, noted(1, 1), 1)})
	v, p := opened(t, "almost full", on)
	wants(t, "too many cells, too long", v.Put(crowded(1)), api.ErrFull)
	wants(t, "too long", v.Put(long), api.ErrLong)
	p.same(t, "refused", v, on)
	p.puts(t, "almost full", v, on, noted(1, 2))
	wants(t, "not valid, being written, too many cells", v.Put(wrong), api.ErrPage)
	wants(t, "being written, too many cells", v.Put(crowded(1)), api.ErrState)
	wants(t, "being written, too long", v.Put(long), api.ErrState)
	wants(t, "being written", v.Put(noted(1, 3)), api.ErrState)
	p.syncs(t, "almost full", v, on)
	p.puts(t, "the last one", v, on, noted(1, 3))
	wants(t, "being written, full", v.Put(noted(1, 4)), api.ErrState)
	p.syncs(t, "the last one", v, on)
	wants(t, "too long, full", v.Put(long), api.ErrLong)
	wants(t, "full", v.Put(noted(1, 4)), api.ErrFull)
	p.puts(t, "another page", v, on, noted(2, 4))
	p.syncs(t, "another page", v, on)
	holds(t, "the last one", v, noted(1, 3))
	p.same(t, "refused again", v, on)
}

// TestPutAbove: the top may be up to 2^63 less 1, whichever sector of both blocks has it.
func TestPutAbove(t *testing.T) {
	for _, top := range []uint64{full - 2, full - 1, full, full + 1, math.MaxUint64} {
		tail := strings.Repeat("\x00", sector) + packed(t, top, "", 1)
		for name, bytes := range map[string]map[int]string{
			"a page on the first block":     {2: stored(t, top, noted(2, 1), 2)},
			"a page on the second block":    {3: stored(t, top, noted(2, 1), 2)},
			"a sector of the first block":   {2: tail, 3: stored(t, 3, noted(2, 1), 2)},
			"a sector of the second block":  {2: stored(t, 3, noted(2, 1), 2), 3: tail},
			"a sector and no page":          {3: tail},
			"a sector of the block ahead":   {1: tail, 2: stored(t, 3, noted(2, 1), 2)},
			"a sector of the block behind":  {3: stored(t, 3, noted(2, 1), 2), 4: tail},
			"what is kept for another page": {0: tail, 1: tail, 4: tail, 5: tail},
		} {
			on := deviceOf(t, 6, 2, bytes)
			v, p := opened(t, name, on)
			for n := range uint64(4) {
				p.puts(t, name, v, on, noted(2, 10+n))
				p.syncs(t, name, v, on)
			}
		}
	}
}

// P12.4

func TestSync(t *testing.T) {
	on := deviceOf(t, 6, 2, nil)
	v, p := opened(t, "new", on)
	p.syncs(t, "nothing is written", v, on)
	for round := range uint64(5) {
		for id := range uint64(3) {
			if round%(id+1) == 0 {
				p.puts(t, "round", v, on, noted(id+1, 10*round+id))
			}
		}
		p.syncs(t, "round", v, on)
		p.syncs(t, "nothing is written", v, on)
		if on.Pending() != 0 {
			t.Error(on.Pending(), "writes are pending")
		}
		on.Crash([]uint64{math.MaxUint64})
		opened(t, "after a crash", on.Copy())
		p.same(t, "after a crash", v, on)
	}
}

// TestSyncOfPendingWrites: the device is synced even if no page is being written.
func TestSyncOfPendingWrites(t *testing.T) {
	on := deviceOf(t, 3, 1, nil)
	wants(t, "Write", on.Write(0, stored(t, 2, noted(1, 2), 1)), api.OK)
	wants(t, "Write", on.Write(2, "other"), api.OK)
	v, p := opened(t, "pending", on)
	p.syncs(t, "pending", v, on)
	on.Crash(nil)
	v, _ = opened(t, "pending", on)
	holds(t, "pending", v, noted(1, 2))
}

// TestVaultsApart: vaults of two devices have nothing in common.
func TestVaultsApart(t *testing.T) {
	first, second := deviceOf(t, 4, 1, nil), deviceOf(t, 4, 1, nil)
	v, p := opened(t, "first", first)
	w, q := opened(t, "second", second)
	p.puts(t, "first", v, first, noted(1, 1))
	q.same(t, "second", w, second)
	q.puts(t, "second", w, second, noted(1, 2))
	q.syncs(t, "second", w, second)
	p.same(t, "first", v, first)
	p.syncs(t, "first", v, first)
	q.same(t, "second", w, second)
}

// TestRandomCalls holds vaults against the Terms, also after crashes that keep some sectors.
func TestRandomCalls(t *testing.T) {
	r := rand.New(rand.NewSource(121))
	for range 200 {
		sectors := 1 + r.Intn(4)
		on := deviceOf(t, 2+r.Intn(9), sectors, nil)
		v, p := opened(t, "new", on)
		for range 60 {
			switch r.Intn(8) {
			case 0, 1, 2, 3, 4:
				id := 1 + uint64(r.Intn(v.Places()+1))
				p.puts(t, "random", v, on, sized(id, emptySize+oneCell+r.Intn(sectors*piece-emptySize-oneCell)))
			case 5, 6:
				p.syncs(t, "random", v, on)
			default:
				keep := keeps(r, on.Pending())
				on.Crash(keep)
				p.on.Crash(keep)
				v, p = opened(t, "random", on)
			}
		}
	}
}

// P12.5

// keeps returns which sectors a power loss keeps of so many writes: some, all or none.
func keeps(r *rand.Rand, writes int) []uint64 {
	var l []uint64
	for range writes {
		l = append(l, []uint64{0, math.MaxUint64, r.Uint64(), r.Uint64() & r.Uint64()}[r.Intn(4)])
	}
	return l
}

// lost tries all ways in which a device may lose its power while pages 1 and 3 are being written, a number of times one after the other. Page 2 is left alone.
func lost(t *testing.T, name string, on *block.Dev, deep int) {
	v, before := opened(t, name, on)
	sectors := on.Size() / sector
	written := map[uint64]api.Page{}
	for _, id := range []uint64{1, 3} {
		p := sized(id, sectors*piece-4-deep)
		p.Dsn = uint64(len(name) + 100*deep)
		written[id] = p
		wants(t, name, v.Put(p), api.OK)
	}
	all := uint64(1)<<sectors - 1
	for keep := range all + 1 {
		for _, other := range []uint64{0, 1, all - keep, all} {
			left := on.Copy()
			left.Crash([]uint64{keep, other})
			again := fmt.Sprintf("%s, %b and %b", name, keep, other)
			w, after := opened(t, again, left)
			after.isEither(t, again, before, written, map[uint64]bool{1: keep == all, 3: other == all})
			if deep > 1 && keep%3 != 2 {
				lost(t, again, left, deep-1)
			} else if deep == 1 && w.Sync() != api.OK {
				t.Error(again, "is not synced")
			}
		}
	}
	wants(t, name, v.Sync(), api.OK)
	on.Crash([]uint64{all, all})
	_, after := opened(t, name, on)
	after.isEither(t, name, before, written, map[uint64]bool{1: true, 3: true})
}

// isEither checks that each page is what was current, or what was being written if that is whole.
func (p *plain) isEither(t *testing.T, name string, before *plain, written map[uint64]api.Page, whole map[uint64]bool) {
	t.Helper()
	for id := uint64(1); id <= p.places(); id++ {
		got, e := p.get(id)
		want, f := before.get(id)
		if whole[id] {
			want, f = written[id], api.OK
		}
		if e != f || !page.Same(got, want) {
			t.Fatalf("%s: page %d is %v, %v, not %v, %v", name, id, got, e, want, f)
		}
	}
}

func TestCrashes(t *testing.T) {
	lost(t, "new", deviceOf(t, 6, 1, nil), 3)
	lost(t, "two sectors", deviceOf(t, 7, 2, map[int]string{3: stored(t, 1, noted(2, 2), 2)}), 3)
	lost(t, "three sectors", deviceOf(t, 6, 3, map[int]string{2: stored(t, 1, noted(2, 2), 3), 4: stored(t, 1, noted(3, 1), 3)}), 2)
	lost(t, "four sectors", deviceOf(t, 6, 4, map[int]string{1: stored(t, 3, noted(1, 1), 4), 0: stored(t, 3, noted(1, 2), 4), 5: stored(t, 7, empty(1), 4)}), 1)
	lost(t, "other bytes", deviceOf(t, 6, 2, map[int]string{0: strings.Repeat("\x01", 2*sector), 1: strings.Repeat("\x02", 2*sector)}), 2)
}

// TestCrashWithoutPut: a power loss while nothing is written changes nothing.
func TestCrashWithoutPut(t *testing.T) {
	on := deviceOf(t, 4, 2, nil)
	for i := range uint64(9) {
		v, p := opened(t, "again", on)
		p.puts(t, "again", v, on, noted(1+i%2, i))
		p.syncs(t, "again", v, on)
		for _, keep := range [][]uint64{nil, {}, {0}, {math.MaxUint64}, {1, 2, 3}} {
			on.Crash(keep)
			w, _ := opened(t, "a crash", on)
			holds(t, "a crash", w, noted(1+i%2, i))
		}
	}
}

// TestManyCrashes: torn pages on top of each other never make up one, and none is lost.
func TestManyCrashes(t *testing.T) {
	r := rand.New(rand.NewSource(125))
	for range 60 {
		sectors := 1 + r.Intn(6)
		on := deviceOf(t, 2+r.Intn(7), sectors, nil)
		now := map[uint64]api.Page{}
		for range 60 {
			v, _ := opened(t, "many", on)
			next := map[uint64]api.Page{}
			for id := uint64(1); id <= uint64(v.Places()); id++ {
				if r.Intn(3) == 0 {
					continue
				}
				next[id] = sized(id, emptySize+oneCell+r.Intn(sectors*piece-3-emptySize-oneCell))
				wants(t, "many", v.Put(next[id]), api.OK)
			}
			if r.Intn(5) == 0 {
				wants(t, "many", v.Sync(), api.OK)
				maps.Copy(now, next)
			}
			on.Crash(keeps(r, on.Pending()))
			keepsEither(t, on, now, next)
		}
	}
}

// keepsEither checks that each page is what it was or what was put, and tells in now which of both.
func keepsEither(t *testing.T, on *block.Dev, now, next map[uint64]api.Page) {
	t.Helper()
	v, _ := opened(t, "after a crash", on)
	for id := uint64(1); id <= uint64(v.Places()); id++ {
		got, e := v.Get(id)
		before, was := now[id]
		after, is := next[id]
		switch {
		case is && e == api.OK && page.Same(got, after):
			now[id] = after
		case was && e == api.OK && page.Same(got, before):
		case !was && e == api.ErrNone:
		default:
			t.Fatalf("page %d is %v, %v, neither %v nor %v", id, got, e, before, after)
		}
	}
}

// The chapter's table

func TestExamples(t *testing.T) {
	on := deviceOf(t, 4, 4, nil)
	v, e := vault.Open(on)
	wants(t, "Open", e, api.OK)
	gets := func(id uint64, want api.Errno) {
		t.Helper()
		p, e := v.Get(id)
		wants(t, fmt.Sprint("Get ", id), e, want)
		if e != api.OK && !page.Same(p, api.Page{}) {
			t.Error(p)
		}
	}
	p := empty(1)
	if v.Places() != 2 {
		t.Error(v.Places(), "places")
	}
	gets(1, api.ErrNone)
	wants(t, "Put(p)", v.Put(p), api.OK)
	gets(1, api.ErrNone)
	lists(t, "put", v, nil, []uint64{1})
	wants(t, "Put(p)", v.Put(p), api.ErrState)
	wants(t, "Sync", v.Sync(), api.OK)
	holds(t, "synced", v, p)
	lists(t, "synced", v, []uint64{1}, nil)
	gets(0, api.ErrArg)
	gets(3, api.ErrArg)
	wants(t, "Put({Id 3})", v.Put(empty(3)), api.ErrArg)
	wants(t, "Put({})", v.Put(api.Page{}), api.ErrPage)
}

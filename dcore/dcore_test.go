package dcore_test

import (
	"fmt"
	"math"
	"slices"
	"strings"
	"testing"

	"lockkeeper/api"
	"lockkeeper/block"
	"lockkeeper/change"
	"lockkeeper/dcore"
	"lockkeeper/master"
	"lockkeeper/page"
	"lockkeeper/route"
	"lockkeeper/tape"
	"lockkeeper/vault"
	"lockkeeper/wal"
)

// small are the options of the chapter's examples.
var small = api.CoreOptions{Frames: 8, Most: 40, Cell: 20, In: 10}

func wants(t *testing.T, name string, got, want any) {
	t.Helper()
	if got != want {
		t.Errorf("%s: %v, not %v", name, got, want)
	}
}

// kid is a page's number as a child.
func kid(id uint64) string {
	s, _ := page.Kid(id)
	return s
}

// row makes cells of keys and values by turns.
func row(words ...string) []api.Cell {
	var l []api.Cell
	for i := 0; i+1 < len(words); i += 2 {
		l = append(l, api.Cell{Key: words[i], Value: words[i+1]})
	}
	return l
}

// put is an operation that sets a key, del one that deletes it.
func put(n uint64, key, value string) api.Op { return api.Op{Lsn: n, Key: key, Value: value} }

func del(n uint64, key string) api.Op { return api.Op{Lsn: n, Key: key, Del: true} }

// nine is a value that makes a cell of a key of one byte take 13 bytes: four of them are too many for small.
const nine = "12345678"

// core is a core with its devices.
type core struct {
	*testing.T
	*dcore.Core
	d disks
	o api.CoreOptions
}

// opened opens a core that is not up.
func opened(t *testing.T, d disks, o api.CoreOptions) core {
	t.Helper()
	c, e := d.open(o)
	wants(t, "open", e, api.OK)
	return core{t, c, d, o}
}

// booted opens a core that is up.
func booted(t *testing.T, d disks, o api.CoreOptions) core {
	t.Helper()
	c := opened(t, d, o)
	for i := range 2 {
		is, e := c.Boot()
		wants(t, "boot", fmt.Sprint(is, e), fmt.Sprint(i == 1, api.OK))
	}
	return c
}

func fresh(t *testing.T, o api.CoreOptions) core {
	t.Helper()
	return booted(t, newDisks(o, 20, 200000), o)
}

// again crashes the devices, of which nothing more is kept, and opens the core on them.
func (c core) again() core {
	c.Helper()
	return booted(c.T, c.d.crash(), c.o)
}

func (c core) do(want api.Errno, ops ...api.Op) {
	c.Helper()
	for _, op := range ops {
		wants(c.T, fmt.Sprint("do ", op), c.Do(op), want)
	}
}

func (c core) work(kind uint8, is bool, want api.Errno) {
	c.Helper()
	did, e := c.Work(kind)
	wants(c.T, fmt.Sprint("work ", kind), fmt.Sprint(did, e), fmt.Sprint(is, want))
}

// works does works that all have something to do.
func (c core) works(kinds ...uint8) {
	c.Helper()
	for _, kind := range kinds {
		c.work(kind, true, api.OK)
	}
}

// drain does one work as long as there is something to do.
func (c core) drain(kinds ...uint8) {
	c.Helper()
	for _, kind := range kinds {
		for range 500 {
			if is, e := c.Work(kind); !is {
				wants(c.T, fmt.Sprint("work ", kind), e, api.OK)
				break
			}
		}
	}
}

// settle makes all that is done durable, and the log empty.
func (c core) settle() {
	c.Helper()
	c.Note(maxLsn, 0)
	c.drain(api.WkForce, api.WkFlush, api.WkSync, api.WkPoint, api.WkSeal)
	wants(c.T, "the oldest", c.Oldest(), uint64(0))
	wants(c.T, "the log", c.d.log.Base(), c.d.log.End())
}

// page is a page of the forest, without its Set's list, and its cells by their keys alone.
func (c core) page(id uint64) string {
	p, is := route.At(c.Forest(), id)
	if !is {
		return "none"
	}
	s := fmt.Sprintf("%d dsn %d set %d %v:", p.Level, p.Dsn, p.Set.Low, p.Set.In)
	for _, cell := range p.Cells {
		s += " " + cell.Key
	}
	if p.End {
		s += fmt.Sprintf(" to %s %d", p.High, p.Right)
	}
	return s
}

func (c core) pages(want map[uint64]string) {
	c.Helper()
	wants(c.T, "the pages", len(c.Forest()), len(want))
	for id, s := range want {
		wants(c.T, fmt.Sprint("page ", id), c.page(id), s)
	}
}

// forest puts pages into the vault of devices.
func (d disks) forest(t *testing.T, pages ...api.Page) disks {
	t.Helper()
	v, _ := vault.Open(d.pages)
	for _, p := range pages {
		wants(t, "vault.Put", v.Put(p), api.OK)
	}
	v.Sync()
	return d
}

// string puts the master's string on devices.
func (d disks) string(t *testing.T, s string) disks {
	t.Helper()
	m, _ := master.Open(d.heart)
	wants(t, "master.Put", m.Put(s), api.OK)
	m.Sync()
	return d
}

// records appends records to a log whose last number is least.
func (d disks) records(t *testing.T, least uint64, kind uint8, data ...string) disks {
	t.Helper()
	w, _ := wal.Open(d.log, least)
	for _, s := range data {
		_, e := w.Append(kind, s)
		wants(t, "wal.Append", e, api.OK)
	}
	w.Force()
	return d
}

func changeOf(t *testing.T, n uint64, gone []uint64, pages ...api.Page) string {
	t.Helper()
	c, e := change.Make(pages, gone, n)
	wants(t, "change.Make", e, api.OK)
	s, e := change.Put(c)
	wants(t, "change.Put", e, api.OK)
	return s
}

// P18.1: each limit of the options, and what they need.

func TestCheck(t *testing.T) {
	least, most := api.CoreOptions{Frames: 8, Most: 8, Cell: 2, In: 1}, api.CoreOptions{Frames: 400, Most: 8000, Cell: 2560, In: 900}
	for _, o := range []api.CoreOptions{least, most, small} {
		wants(t, fmt.Sprint("check of ", o), dcore.Check(o), api.OK)
	}
	for _, n := range []int{1, math.MaxInt, math.MinInt, math.MaxInt / 8} {
		for i := range 4 {
			o, p := least, most
			for _, q := range []*api.CoreOptions{&o, &p} {
				by := n
				if q == &o {
					by = -n
				}
				*[]*int{&q.Frames, &q.Most, &q.Cell, &q.In}[i] += by
				wants(t, fmt.Sprint("check of ", *q), dcore.Check(*q), api.ErrArg)
			}
		}
	}
	wants(t, "check of none", dcore.Check(api.CoreOptions{}), api.ErrArg)
}

func TestNeed(t *testing.T) {
	for _, w := range []struct {
		o    api.CoreOptions
		need int
	}{
		{small, 6220},
		{api.CoreOptions{Frames: 8, Most: 8, Cell: 2, In: 1}, 1060 + 808 + 16 + 4200},
		{api.CoreOptions{Frames: 400, Most: 8000, Cell: 2560, In: 900}, 1060 + 8000 + 16000 + 8*2564},
		{api.CoreOptions{Frames: 8, Most: 100, Cell: 521, In: 1}, 1060 + 808 + 200 + 4200},
		{api.CoreOptions{Frames: 8, Most: 100, Cell: 522, In: 1}, 1060 + 808 + 200 + 4208},
	} {
		wants(t, fmt.Sprint("need of ", w.o), dcore.Need(w.o), w.need)
	}
	dcore.Need(api.CoreOptions{Frames: math.MinInt, Most: math.MaxInt, Cell: math.MaxInt, In: math.MinInt})
}

// P18.2: what Open refuses, in its order, and that it changes nothing then.

// refuses opens a core on devices that stay as they are.
func refuses(t *testing.T, name string, d disks, o api.CoreOptions, want api.Errno) {
	t.Helper()
	was := d.told()
	c, e := d.open(o)
	if c != nil || e != want {
		t.Errorf("%s: %v, %v, not %v", name, c, e, want)
	}
	if d.told() != was {
		t.Errorf("%s: the devices are not what they were", name)
	}
}

func TestOpenWithoutDevices(t *testing.T) {
	d := newDisks(small, 8, 1000)
	for name, l := range map[string]disks{
		"no pages": {nil, d.heart, d.log}, "no heart": {d.pages, nil, d.log}, "no log": {d.pages, d.heart, nil}, "none": {},
		"zero pages": {&block.Dev{}, d.heart, d.log}, "zero heart": {d.pages, &block.Dev{}, d.log}, "zero log": {d.pages, d.heart, &tape.Tape{}},
	} {
		for _, o := range []api.CoreOptions{small, {}} {
			c, e := l.open(o)
			if c != nil || e != api.ErrNil {
				t.Errorf("%s: %v %v", name, c, e)
			}
		}
	}
}

func TestOpenArguments(t *testing.T) {
	sectors := sectorsOf(small)
	dev := func(blocks, sectors int) *block.Dev {
		d, e := block.New(blocks, sectors)
		wants(t, "block.New", e, api.OK)
		return d
	}
	good := newDisks(small, 8, 1000)
	for name, d := range map[string]disks{
		"15 blocks":         {dev(15, sectors), good.heart, good.log},
		"a sector too few":  {dev(16, sectors-1), good.heart, good.log},
		"a heart too short": {good.pages, dev(1, 1), good.log},
	} {
		refuses(t, name, d, small, api.ErrArg)
		// ErrArg is ahead of ErrCore.
		d.log.Append("no record")
		refuses(t, name, d, small, api.ErrArg)
		d.log.Cut(0)
	}
	refuses(t, "options", good, api.CoreOptions{Frames: 7, Most: 40, Cell: 20, In: 10}, api.ErrArg)
	// 112 sectors have 6268 bytes.
	o := api.CoreOptions{Frames: 8, Most: 40, Cell: 20, In: 16}
	wants(t, "need", dcore.Need(o), 6268)
	refuses(t, "a byte too few", good, api.CoreOptions{Frames: 8, Most: 41, Cell: 20, In: 16}, api.ErrArg)
	opened(t, disks{dev(16, 112), dev(2, 1), tape.New(0)}, o)
	opened(t, disks{dev(17, 112), dev(9, 4), tape.New(0)}, o)
}

func TestOpenMaster(t *testing.T) {
	for _, w := range []struct {
		s           string
		e           api.Errno
		epoch, from uint64
	}{
		{"", api.OK, 1, 1},
		{marks(0, 1), api.OK, 1, 1},
		{marks(7, 9), api.OK, 8, 9},
		{marks(maxLsn, maxLsn), api.OK, maxLsn + 1, maxLsn},
		{marks(maxLsn+1, 1), api.ErrCore, 0, 0},
		{marks(1<<64-1, 1), api.ErrCore, 0, 0},
		{marks(0, 0), api.ErrCore, 0, 0},
		{marks(1, maxLsn+1), api.ErrCore, 0, 0},
		{marks(1, 1<<64-1), api.ErrCore, 0, 0},
		{marks(1, 1)[:15], api.ErrCore, 0, 0},
		{marks(1, 1) + "\x00", api.ErrCore, 0, 0},
		{"x", api.ErrCore, 0, 0},
	} {
		d := newDisks(small, 8, 1000).string(t, w.s)
		if w.e != api.OK {
			refuses(t, fmt.Sprintf("%q", w.s), d, small, w.e)
			continue
		}
		c := opened(t, d, small)
		wants(t, fmt.Sprintf("%q", w.s), fmt.Sprint(c.Up(), c.Epoch(), c.From(), c.Stable()), fmt.Sprint(false, w.epoch, w.from, w.from-1))
		m, _ := master.Open(d.heart)
		wants(t, "the string", m.Data(), w.s)
	}
}

func TestOpenLog(t *testing.T) {
	leaf := api.Page{Id: 1, Cells: row("a", "x")}
	good := changeOf(t, 3, nil, leaf)
	for name, w := range map[string]struct {
		kind uint8
		data string
		want api.Errno
	}{
		"a change":         {1, good, api.OK},
		"another Kind":     {2, good, api.ErrCore},
		"no Kind":          {0, good, api.ErrCore},
		"a smaller number": {1, changeOf(t, 2, nil, leaf), api.ErrCore},
		"a greater number": {1, changeOf(t, 4, nil, leaf), api.ErrCore},
		"no change":        {1, "x", api.ErrCore},
		"nothing":          {1, "", api.ErrCore},
		"more":             {1, good + "x", api.ErrCore},
	} {
		d := newDisks(small, 8, 9000).string(t, marks(5, 3)).records(t, 2, w.kind, w.data)
		// Bytes of a record that is not complete are cut off, but not if the devices contain no core.
		d.log.Append("\x01")
		if w.want != api.OK {
			refuses(t, name, d, small, w.want)
			continue
		}
		end := d.log.Sure()
		c := opened(t, d, small)
		c.pages(map[uint64]string{1: "0 dsn 3 set 0 []: a"})
		wants(t, "the end", d.log.End(), end)
		wants(t, "stable", c.Stable(), uint64(3))
	}
	d := newDisks(small, 8, 9000).string(t, marks(5, 3)).records(t, 1, 1, good)
	refuses(t, "a last number below least", d.string(t, marks(5, 4)), small, api.ErrCore)
	d = newDisks(small, 8, 9000)
	d.log.Append("\x00\x01no record at all, of which all bytes are there")
	refuses(t, "no log", d, small, api.ErrCore)
}

// What is ahead of from is not read, whatever it is.
func TestOpenReadsFrom(t *testing.T) {
	d := newDisks(small, 8, 9000).records(t, 0, 1, "x", "y", changeOf(t, 3, nil, api.Page{Id: 1, Cells: row("a", "x")}))
	refuses(t, "from 1", d, small, api.ErrCore)
	refuses(t, "from 2", d.string(t, marks(1, 2)), small, api.ErrCore)
	opened(t, d.copy().string(t, marks(1, 3)), small).pages(map[uint64]string{1: "0 dsn 3 set 0 []: a"})
	opened(t, d.copy().string(t, marks(1, 4)), small).pages(map[uint64]string{1: "0 dsn 0 set 0 []:"})
	refuses(t, "from 5", d.string(t, marks(1, 5)), small, api.ErrCore)
}

// pair is a root with two leaves, which end and begin at m.
func pair(dsn uint64) []api.Page {
	return []api.Page{
		{Id: 1, Level: 1, Dsn: dsn, Cells: row("", kid(2), "m", kid(3))},
		{Id: 2, Right: 3, High: "m", End: true, Dsn: dsn, Set: api.Lsns{In: []uint64{4}}, Cells: row("a", "x", "b", "y")},
		{Id: 3, Low: "m", Dsn: dsn, Set: api.Lsns{Low: 1, In: []uint64{4}}, Cells: row("z", "")},
	}
}

func TestOpenForest(t *testing.T) {
	two := pair(2)
	// A page that is not reached is not in use, whatever its number.
	c := opened(t, newDisks(small, 8, 9000).forest(t, append(two, api.Page{Id: 7, Cells: row("a", "b")})...), small)
	c.pages(map[uint64]string{1: "1 dsn 2 set 0 []:  m", 2: "0 dsn 2 set 0 [4]: a b to m 3", 3: "0 dsn 2 set 1 [4]: z"})
	// A leaf has no children, whatever its values are like.
	c = opened(t, newDisks(small, 8, 9000).forest(t, api.Page{Id: 1, Cells: row("a", kid(7))}, api.Page{Id: 7}), small)
	c.pages(map[uint64]string{1: "0 dsn 0 set 0 []: a"})
	for name, l := range map[string][]api.Page{
		"a missing child": {two[0], two[1]},
		"a missing Right": {{Id: 1, Level: 1, Cells: row("", kid(2))}, two[1]},
		"two bounds":      {two[0], two[1], {Id: 3, Low: "n"}},
		"another level":   {{Id: 1, Level: 2, Cells: two[0].Cells}, two[1], two[2]},
		"an End":          {{Id: 1, Right: 2, High: "m", End: true}, {Id: 2, Low: "m"}},
		"a ring":          {{Id: 1, Right: 2, High: "m", End: true}, {Id: 2, Right: 1, Low: "m", High: "n", End: true}},
		"a page too much": {{Id: 1, Level: 1, Cells: row("", kid(2), "m", kid(3), "x", kid(4))}, two[1], two[2], {Id: 4, Low: "x"}},
		"no root":         {two[1]},
	} {
		want := api.ErrCore
		if name == "no root" {
			// An empty leaf stands for it.
			want = api.OK
		}
		d := newDisks(small, 8, 9000).forest(t, l...)
		if want != api.OK {
			refuses(t, name, d, small, want)
			continue
		}
		opened(t, d, small).pages(map[uint64]string{1: "0 dsn 0 set 0 []:"})
	}
}

// Records are done again in order, but no page is replaced by what is older, and Gone pages go.
func TestOpenRedo(t *testing.T) {
	l := pair(2)
	l[1].Dsn = 5
	d := newDisks(small, 8, 20000).forest(t, l...).string(t, marks(1, 3))
	newer := []api.Page{{Id: 2, Right: 4, High: "c", End: true}, {Id: 4, Right: 3, Low: "c", High: "m", End: true, Cells: row("c", "")}}
	joined := api.Page{Id: 4, Low: "c", Cells: row("c", "", "z", "")}
	root := api.Page{Id: 1, Level: 1, Cells: row("", kid(2))}
	stale := api.Page{Id: 2, Right: 3, High: "m", End: true, Cells: row("a", "wrong")}
	l[1].Right, l[1].High, l[1].Cells = 4, "c", row("a", "x")
	d.forest(t, l[1])
	d.records(t, 2, 1, changeOf(t, 3, nil, stale), changeOf(t, 4, nil, newer...), changeOf(t, 5, nil, root), changeOf(t, 6, []uint64{3}, joined))
	d.log.Crash(0)
	c := opened(t, d, small)
	c.pages(map[uint64]string{1: "1 dsn 5 set 0 []: ", 2: "0 dsn 5 set 0 [4]: a to c 4", 4: "0 dsn 6 set 0 []: c z"})
	wants(t, "stable", c.Stable(), uint64(6))
	// All of it is durable by now: the log is not needed.
	wants(t, "pending", d.pages.Pending(), 0)
	f := c.Forest()
	d.crash()
	d.log = tape.New(20000)
	c = opened(t, d.string(t, marks(9, 7)), small)
	if !route.Same(f, c.Forest()) || c.Epoch() != 10 {
		t.Error(c.Forest(), c.Epoch())
	}
}

func TestOpenPutsWhatDiffers(t *testing.T) {
	d := newDisks(small, 8, 9000).forest(t, pair(2)...)
	was := d.told()
	opened(t, d, small)
	wants(t, "the devices are changed", d.told() != was, false)
	d.records(t, 0, 1, changeOf(t, 1, nil, api.Page{Id: 5}), changeOf(t, 2, nil, api.Page{Id: 1}))
	was = d.told()
	opened(t, d, small)
	wants(t, "the devices are changed", d.told() != was, false)
	// A new device gets its root.
	d = newDisks(small, 8, 9000)
	opened(t, d, small)
	v, _ := vault.Open(d.crash().pages)
	p, e := v.Get(1)
	if e != api.OK || !page.Same(p, api.Page{Id: 1}) {
		t.Error(p, e)
	}
}

// What the vault refuses is returned, and nothing of the rest is put.
func TestOpenVault(t *testing.T) {
	root := api.Page{Id: 1, Level: 1, Cells: row("", kid(2), "m", kid(9))}
	left := api.Page{Id: 2, Right: 9, High: "m", End: true}
	right := api.Page{Id: 9, Low: "m"}
	d := newDisks(small, 8, 99000).records(t, 0, 1, changeOf(t, 1, nil, root, left, right))
	d.log.Append("\x01")
	refuses(t, "a page without a place", d, small, api.ErrArg)
	opened(t, disks{newDisks(small, 9, 0).pages, d.heart, d.log}, small)

	long := left
	long.Right = 3
	for i := range 9 {
		long.Cells = append(long.Cells, api.Cell{Key: fmt.Sprint(i), Value: strings.Repeat("v", 700)})
	}
	last := api.Page{Id: 3, Low: "m"}
	root.Cells = row("", kid(2), "m", kid(3))
	d = newDisks(small, 8, 99000).records(t, 0, 1, changeOf(t, 1, nil, root, long, last))
	d.log.Append("\x01")
	refuses(t, "a page that is too long", d, small, api.ErrLong)

	d = newDisks(small, 8, 99000).forest(t, pair(2)...).records(t, 0, 1, changeOf(t, 1, nil, api.Page{Id: 4}), changeOf(t, 2, nil, api.Page{Id: 4}), changeOf(t, 3, nil, pair(3)...))
	d.log.Append("\x01")
	top := "\x80" + strings.Repeat("\x00", 63)
	d.pages.Write(5, top)
	d.pages.Sync()
	refuses(t, "a full top", d, small, api.ErrFull)

	// Also if it is the only page to put.
	d = newDisks(small, 8, 99000).forest(t, pair(2)...).records(t, 0, 1, changeOf(t, 1, nil, api.Page{Id: 4}), changeOf(t, 2, nil, api.Page{Id: 4}), changeOf(t, 3, nil, pair(3)[2]))
	d.log.Append("\x01")
	d.pages.Write(5, top)
	d.pages.Sync()
	refuses(t, "a full top of one page", d, small, api.ErrFull)
}

// P18.3: Boot, and what it leaves on the devices.
func TestBoot(t *testing.T) {
	d := newDisks(small, 8, 90000).string(t, marks(4, 3)).forest(t, pair(2)...).records(t, 2, 1, changeOf(t, 3, nil, api.Page{Id: 9}), changeOf(t, 4, nil, api.Page{Id: 9}))
	c := opened(t, d, small)
	for range 3 {
		is, e := c.Boot()
		m, _ := master.Open(d.heart.Copy())
		switch {
		case c.Epoch() != 5:
			t.Error(c.Epoch())
		case !is && e == api.OK:
			wants(t, "the string", m.Data(), marks(5, 5))
			wants(t, "pending", d.heart.Pending(), 1)
			wants(t, "up, from, base", fmt.Sprint(c.Up(), c.From(), d.log.Base()), "false 3 0")
		case is && e == api.OK:
			wants(t, "pending", d.heart.Pending(), 0)
			wants(t, "up, from, base", fmt.Sprint(c.Up(), c.From(), d.log.Base() == d.log.End()), "true 5 true")
		default:
			wants(t, "boot again", fmt.Sprint(is, e, c.Up(), c.From()), fmt.Sprint(false, api.ErrState, true, 5))
		}
	}
	// A crash between both calls leaves the string as it was, or as it is written.
	c = opened(t, d.crash(), small)
	wants(t, "the epoch", c.Epoch(), uint64(6))
	c.Boot()
	d.heart.Crash([]uint64{1})
	wants(t, "the epoch", opened(t, d, small).Epoch(), uint64(7))
	c = opened(t, d, small)
	c.Boot()
	wants(t, "the epoch", opened(t, d.crash(), small).Epoch(), uint64(7))
}

func TestBootOfFullMaster(t *testing.T) {
	d := newDisks(small, 8, 9000)
	d.heart.Write(1, "\x80"+strings.Repeat("\x00", 63))
	d.heart.Sync()
	c := opened(t, d, small)
	for range 2 {
		is, e := c.Boot()
		wants(t, "boot", fmt.Sprint(is, e, c.Up()), fmt.Sprint(false, api.ErrFull, false))
	}
}

// All but Note, Boot and what only looks needs a core that is up.
func TestNotUp(t *testing.T) {
	c := opened(t, newDisks(small, 8, 9000).forest(t, pair(0)...), small)
	check := func() {
		t.Helper()
		c.do(api.ErrState, put(5, "a", "x"), put(0, "a", "x"), put(5, "", ""), put(4, "a", "x"))
		_, is, e := c.Get("a")
		wants(t, "get", fmt.Sprint(is, e), fmt.Sprint(false, api.ErrState))
		_, _, e = c.Get("")
		wants(t, "get", e, api.ErrState)
		l, more, e := c.Scan(api.Range{}, 1)
		wants(t, "scan", fmt.Sprint(l, more, e), fmt.Sprint([]api.Cell{}, false, api.ErrState))
		_, _, e = c.Scan(api.Range{To: "a"}, 0)
		wants(t, "scan", e, api.ErrState)
		for kind := range 256 {
			c.work(uint8(kind), false, api.ErrState)
		}
	}
	check()
	wants(t, "note", c.Note(5, 3), api.OK)
	wants(t, "page 2", c.page(2), "0 dsn 0 set 3 [4]: a b to m 3")
	c.Boot()
	check()
	c.Boot()
	c.do(api.OK, put(5, "a", "x"))
	for _, kind := range []uint8{0, 8, 9, 255} {
		c.work(kind, false, api.ErrArg)
	}
}

// P18.4: neither mark goes back, and the low has a limit.
func TestNote(t *testing.T) {
	c := fresh(t, small)
	c.do(api.OK, put(3, "a", "x"), put(7, "b", "y"))
	for _, w := range []struct {
		eosl, low uint64
		set       string
		ready     bool
	}{
		{0, 0, "0 [3 7]", false}, {6, 2, "2 [3 7]", false}, {5, 4, "4 [7]", false}, {0, 3, "4 [7]", false}, {6, 6, "6 [7]", false}, {7, 0, "6 [7]", true}, {2, 9, "9 []", false}, {9, 0, "9 []", true},
	} {
		wants(t, "note", c.Note(w.eosl, w.low), api.OK)
		wants(t, fmt.Sprint("page 1 after ", w), c.page(1), "0 dsn 0 set "+w.set+": a b")
		d := disks{c.d.pages.Copy(), c.d.heart, c.d.log}
		if w.ready {
			c.works(api.WkFlush, api.WkSync)
			v, _ := vault.Open(c.d.pages)
			p, _ := v.Get(1)
			wants(t, "what is stored", fmt.Sprint(p.Set.Low, " ", p.Set.In), w.set)
			c.do(api.OK, put(11, "a", "x"))
			c = booted(t, disks{d.pages, newDisks(small, 8, 0).heart, tape.New(9000)}, small)
			c.do(api.OK, put(3, "a", "x"), put(7, "b", "y"))
			c.Note(w.eosl, w.low)
			continue
		}
		c.work(api.WkFlush, false, api.OK)
	}
	c.Note(0, maxLsn-1)
	wants(t, "page 1", c.page(1), fmt.Sprintf("0 dsn 0 set %d []: a b", maxLsn-1))
	c.do(api.OK, put(maxLsn, "a", "z"))
	c.Note(0, math.MaxUint64)
	wants(t, "page 1", c.page(1), fmt.Sprintf("0 dsn 0 set %d []: a b", maxLsn))
	c.Note(math.MaxUint64, 0)
	c.works(api.WkFlush)
}

// A page that has no frame is raised as well, as soon as it is asked for.
func TestNoteOfPagesWithoutFrames(t *testing.T) {
	c := booted(t, newDisks(small, 8, 9000).forest(t, pair(2)...), small)
	c.Note(0, 6)
	c.pages(map[uint64]string{1: "1 dsn 2 set 0 []:  m", 2: "0 dsn 2 set 6 []: a b to m 3", 3: "0 dsn 2 set 6 []: z"})
	c.do(api.OK, put(6, "a", "other"), del(1, "z"))
	wants(t, "the oldest", c.Oldest(), uint64(0))
	c.do(api.OK, put(8, "a", "other"))
	c.pages(map[uint64]string{1: "1 dsn 2 set 0 []:  m", 2: "0 dsn 2 set 6 [8]: a b to m 3", 3: "0 dsn 2 set 6 []: z"})
}

// The chapter's examples.
func TestExamples(t *testing.T) {
	c := opened(t, newDisks(small, 20, 200000), small)
	c.do(api.ErrState, put(1, "a", "x"))
	for i := range 2 {
		is, e := c.Boot()
		wants(t, "boot", fmt.Sprint(is, e), fmt.Sprint(i == 1, api.OK))
	}
	c.do(api.OK, put(1, "a", "x"), put(1, "a", "x"))
	v, is, e := c.Get("a")
	wants(t, "get", fmt.Sprint(v, is, e), fmt.Sprint("x", true, api.OK))
	f := c.Forest()
	if !route.Same(f, []api.Page{{Id: 1, Set: api.Lsns{In: []uint64{1}}, Cells: row("a", "x")}}) {
		t.Error(f)
	}
	c.work(api.WkFlush, false, api.OK)
	wants(t, "note", c.Note(1, 0), api.OK)
	c.works(api.WkFlush, api.WkSync)
	c.do(api.OK, put(2, "b", nine), put(3, "c", nine), put(4, "d", nine))
	f = c.Forest()
	if len(f) != 3 || f[0].Level != 1 || len(f[0].Cells) != 2 {
		t.Error(f)
	}
}

func TestNone(t *testing.T) {
	stopped := fresh(t, small)
	stopped.Stop()
	for name, c := range map[string]*dcore.Core{"nil": nil, "zero": {}, "stopped": stopped.Core} {
		is, e := c.Boot()
		wants(t, name+" boot", fmt.Sprint(is, e), fmt.Sprint(false, api.ErrNil))
		wants(t, name+" note", c.Note(1, 1), api.ErrNil)
		wants(t, name+" do", c.Do(put(0, "", "")), api.ErrNil)
		v, is, e := c.Get("")
		wants(t, name+" get", fmt.Sprint(v, is, e), fmt.Sprint("", false, api.ErrNil))
		l, is, e := c.Scan(api.Range{To: "x"}, 0)
		wants(t, name+" scan", fmt.Sprint(len(l), is, e), fmt.Sprint(0, false, api.ErrNil))
		for _, kind := range []uint8{0, 1, 7, 8} {
			is, e = c.Work(kind)
			wants(t, name+" work", fmt.Sprint(is, e), fmt.Sprint(false, api.ErrNil))
		}
		wants(t, name, fmt.Sprint(c.Up(), c.Epoch(), c.From(), c.Stable(), c.Oldest(), len(c.Forest())), "false 0 0 0 0 0")
		c.Stop()
	}
}

// P18.5: what Do refuses, in its order.
func TestDoErrors(t *testing.T) {
	o := api.CoreOptions{Frames: 8, Most: 2000, Cell: 600, In: 3}
	c := fresh(t, o)
	long := strings.Repeat("k", 513)
	c.do(api.ErrArg, put(0, "a", "x"), put(maxLsn+1, "a", "x"), put(math.MaxUint64, "a", "x"), api.Op{Lsn: 1, Key: "a", Value: "x", Del: true}, put(0, "", ""), api.Op{Lsn: 1, Value: "x", Del: true})
	c.do(api.ErrLong, put(1, "", "x"), del(1, ""), put(1, long, ""), del(1, long), put(1, "a", strings.Repeat("v", 600)), put(1, long[1:], strings.Repeat("v", 89)))
	wants(t, "page 1", c.page(1), "0 dsn 0 set 0 []:")
	wants(t, "the oldest", c.Oldest(), uint64(0))
	c.do(api.OK, put(1, "a", strings.Repeat("v", 599)), put(2, long[1:], strings.Repeat("v", 88)), put(maxLsn, "b", ""))
	// Too many numbers are refused behind all of that.
	c.do(api.ErrArg, put(0, "a", "x"))
	c.do(api.ErrLong, put(4, "", "x"))
	c.do(api.OK, put(2, "c", ""), put(4, "c", ""))
	wants(t, "page 1", c.page(1), fmt.Sprintf("0 dsn 0 set 0 [1 2 4 %d]: a b c %s", maxLsn, long[1:]))
}

// Numbers above all others are refused from In on, all others from a hundred more on.
func TestDoFullSet(t *testing.T) {
	o := api.CoreOptions{Frames: 8, Most: 100, Cell: 20, In: 2}
	c := fresh(t, o)
	c.do(api.OK, put(500, "a", ""), put(400, "a", ""))
	c.do(api.ErrFull, put(501, "a", "x"), put(600, "b", "x"))
	c.do(api.OK, put(500, "b", "x"), put(499, "a", "x"))
	for n := uint64(1); n <= 99; n++ {
		c.do(api.ErrFull, put(501, "a", "x"))
		c.do(api.OK, put(n, "a", "y"))
	}
	c.do(api.ErrFull, put(100, "a", "x"), put(499-1, "a", "x"), put(501, "a", "x"), del(501, "a"))
	c.do(api.OK, put(99, "a", "x"))
	v, _, _ := c.Get("a")
	wants(t, "get", v, "y")
	c.Note(0, 1)
	c.do(api.OK, put(100, "a", "x"))
	c.do(api.ErrFull, put(101, "a", "x"))
	c.Note(0, 498)
	c.do(api.ErrFull, put(501, "a", "x"))
	c.Note(0, 499)
	c.do(api.OK, put(501, "a", "z"))
	wants(t, "page 1", c.page(1), "0 dsn 0 set 499 [500 501]: a")
}

// What has Most bytes is not split, nor is a single cell; what has more is, and its parts have the numbers of the whole.
func TestDoSplits(t *testing.T) {
	c := fresh(t, small)
	c.do(api.OK, put(4, "a", nine), put(3, "b", nine), put(9, "c", "123456789"))
	wants(t, "page 1", c.page(1), "0 dsn 0 set 0 [3 4 9]: a b c")
	c.do(api.OK, put(7, "b", "123456789"))
	c.pages(map[uint64]string{1: "1 dsn 1 set 0 []:  c", 2: "0 dsn 1 set 0 [3 4 7 9]: a b to c 3", 3: "0 dsn 1 set 0 [3 4 7 9]: c"})
	wants(t, "the oldest", c.Oldest(), uint64(3))
	c.settle()
	// Both leaves are clean now: the number is the operation's alone.
	c.do(api.OK, put(12, "ab", "1234567"))
	wants(t, "the oldest", c.Oldest(), uint64(12))
	c.do(api.OK, put(11, "ac", "1"))
	c.pages(map[uint64]string{1: "1 dsn 1 set 0 []:  c", 2: "0 dsn 2 set 0 [3 4 7 9 11 12]: a ab to ac 4", 4: "0 dsn 2 set 0 [3 4 7 9 11 12]: ac b to c 3", 3: "0 dsn 1 set 0 [3 4 7 9]: c"})
	wants(t, "the oldest", c.Oldest(), uint64(11))
	// A deletion that leaves too much splits as well.
	c = booted(t, newDisks(small, 8, 90000).forest(t, api.Page{Id: 1, Cells: row("a", nine, "b", nine, "c", nine, "d", nine)}), small)
	c.do(api.OK, del(5, "x"))
	c.pages(map[uint64]string{1: "1 dsn 1 set 0 []:  c", 2: "0 dsn 1 set 0 [5]: a b to c 3", 3: "0 dsn 1 set 0 [5]: c d"})
}

// The parts are put with the smaller number of the operation's and the page's, also while the page is being written; a new root is put without one.
func TestDoSplitsWithFirst(t *testing.T) {
	c := fresh(t, small)
	c.Note(100, 0)
	c.do(api.OK, put(4, "a", nine), put(9, "b", nine))
	c.works(api.WkFlush)
	c.do(api.OK, put(6, "c", nine), put(8, "d", nine))
	// The root's frame has the 4 of what is being written, and the 6 of what is not.
	wants(t, "the oldest", c.Oldest(), uint64(4))
	c.works(api.WkSync)
	wants(t, "the oldest", c.Oldest(), uint64(4))
	c.drain(api.WkForce)
	c.works(api.WkFlush, api.WkSync, api.WkFlush, api.WkSync)
	wants(t, "the oldest", c.Oldest(), uint64(4))
	c.works(api.WkFlush, api.WkSync)
	wants(t, "the oldest", c.Oldest(), uint64(0))
}

// A new root has no number, even if it is the last of the three that is written.
func TestDoGrowsWithoutNumber(t *testing.T) {
	c := fresh(t, small)
	c.do(api.OK, put(1, "a", nine), put(2, "b", nine), put(3, "y", nine))
	c.settle()
	c.do(api.OK, put(4, "z", nine), put(5, "za", nine), put(6, "zb", nine))
	wants(t, "page 4", c.page(4), "0 dsn 2 set 0 [1 2 3 4 5 6]: zb")
	c.works(api.WkForce, api.WkForce, api.WkPost, api.WkFlush, api.WkFlush, api.WkFlush)
	wants(t, "the oldest", c.Oldest(), uint64(4))
	c.works(api.WkSync)
	wants(t, "page 1", c.page(1), "1 dsn 3 set 0 []:  y zb")
	wants(t, "the oldest", c.Oldest(), uint64(0))
	f := c.Forest()
	c = c.again()
	c.works(api.WkPost)
	if !slices.Equal(f[0].Cells, c.Forest()[0].Cells) {
		t.Error(c.Forest())
	}
}

// The lowest numbers that are free are taken; if there are none, nothing is done.
func TestDoWithoutNumbers(t *testing.T) {
	root := api.Page{Id: 1, Level: 1, Cells: row("", kid(2), "c", kid(4), "d", kid(5), "e", kid(6), "f", kid(7))}
	full := row("a", nine, "aa", nine, "ab", "1234567")
	l := []api.Page{root, {Id: 2, Right: 4, High: "c", End: true, Cells: full}, {Id: 4, Right: 5, Low: "c", High: "d", End: true}, {Id: 5, Right: 6, Low: "d", High: "e", End: true}, {Id: 6, Right: 7, Low: "e", High: "f", End: true}, {Id: 7, Low: "f"}}
	c := booted(t, newDisks(small, 8, 90000).forest(t, l...), small)
	c.do(api.OK, put(3, "b", "x"))
	wants(t, "page 3", c.page(3), "0 dsn 1 set 0 [3]: ab b to c 4")
	c.do(api.OK, put(4, "ba", nine), put(5, "bb", nine))
	wants(t, "page 8", c.page(8), "0 dsn 2 set 0 [3 4 5]: bb to c 4")
	c.settle()
	was := c.Forest()
	c.do(api.OK, put(6, "bbb", nine))
	f := c.Forest()
	c.do(api.ErrFull, put(7, "bbc", nine))
	if !route.Same(f, c.Forest()) || route.Same(f, was) {
		t.Error(c.Forest())
	}
	c.do(api.OK, put(7, "bbc", ""))

	// The root needs two.
	for places, want := range map[int]api.Errno{8: api.OK, 9: api.OK} {
		c = booted(t, newDisks(small, places, 90000).forest(t, api.Page{Id: 1, Cells: full}), small)
		c.do(want, put(3, "b", "x"))
	}
}

// There is no number for a change behind the last one that a log has.
func TestDoWithoutNumberOfAChange(t *testing.T) {
	c := booted(t, newDisks(small, 20, 90000).string(t, marks(1, maxLsn-1)), small)
	wants(t, "from, stable", fmt.Sprint(c.From(), c.Stable()), fmt.Sprint(maxLsn-1, maxLsn-2))
	c.do(api.OK, put(1, "a", nine), put(2, "b", nine), put(3, "y", nine), put(4, "z", nine), put(5, "c", nine), put(6, "d", nine))
	wants(t, "page 4", c.page(4), fmt.Sprintf("0 dsn %d set 0 [1 2 3 4 5 6]: c d to y 3", maxLsn))
	f := c.Forest()
	c.work(api.WkPost, false, api.ErrFull)
	c.do(api.ErrFull, put(7, "e", nine+"01"), put(8, "e", nine+"012"))
	c.do(api.OK, put(7, "e", nine))
	c.Note(99, 0)
	c.works(api.WkForce, api.WkForce)
	wants(t, "stable", c.Stable(), maxLsn)
	c.work(api.WkPost, false, api.ErrFull)
	c = c.again()
	wants(t, "the pages", len(c.Forest()), len(f))
}

// A change is made only if the log has room for it and for those that wait.
func TestDoWithoutRoomInTheLog(t *testing.T) {
	full := row("a", nine, "aa", nine, "ab", "1234567")
	first := change.Put
	for _, less := range []int{0, 1} {
		c := booted(t, newDisks(small, 20, 90000).forest(t, api.Page{Id: 1, Cells: full}), small)
		c.do(api.OK, put(3, "b", "x"))
		f := c.Forest()
		s, e := first(api.Change{Pages: f})
		wants(t, "the change", e, api.OK)
		cost := wal.Cost(len(s))
		d := newDisks(small, 20, cost-less).forest(t, api.Page{Id: 1, Cells: full})
		c = booted(t, d, small)
		if less > 0 {
			c.do(api.ErrFull, put(3, "b", "x"))
			wants(t, "page 1", c.page(1), "0 dsn 0 set 0 []: a aa ab")
			wants(t, "the oldest", c.Oldest(), uint64(0))
			c.do(api.OK, del(3, "a"))
			continue
		}
		c.do(api.OK, put(3, "b", "x"))
		c.work(api.WkForce, false, api.OK)
		c.Note(3, 0)
		c.works(api.WkForce, api.WkForce)
		wants(t, "the room", d.log.Room(), 0)
		// There is no room for another one until the log is trimmed.
		c.do(api.OK, put(4, "c", nine))
		c.do(api.ErrFull, put(5, "d", nine))
		c.work(api.WkPost, false, api.OK)
		c.Note(9, 0)
		c.drain(api.WkFlush, api.WkSync, api.WkPoint, api.WkSeal)
		wants(t, "the room", d.log.Room(), cost)
		c.do(api.OK, put(5, "d", nine))
		// The one that waits is counted.
		c.work(api.WkPost, false, api.ErrFull)
	}
}

// spread is a core whose tree has many leaves, all of them stored, with one key each: a, b, c and so on.
func spread(t *testing.T, o api.CoreOptions, leaves int) core {
	t.Helper()
	var l []api.Page
	root := api.Page{Id: 1, Level: 1}
	for i := range leaves {
		id := uint64(i + 2)
		p := api.Page{Id: id, Right: id + 1, Low: string(rune('a' + i)), High: string(rune('b' + i)), End: true, Cells: row(string(rune('a'+i)), "v")}
		if i == 0 {
			p.Low = ""
		}
		if i == leaves-1 {
			p.Right, p.High, p.End = 0, "", false
		}
		root.Cells = append(root.Cells, api.Cell{Key: p.Low, Value: kid(id)})
		l = append(l, p)
	}
	return booted(t, newDisks(o, 40, 200000).forest(t, append(l, root)...), o)
}

// With as many frames as may be that must be written, no other page can be read; with five of eight, no change can be made.
func TestNoRoomInThePool(t *testing.T) {
	c := spread(t, small, 12)
	dirty := func(from, to byte) {
		for k := from; k <= to; k++ {
			c.do(api.OK, put(uint64(k), string(rune(k)), "w"))
		}
	}
	dirty('a', 'd')
	c.do(api.OK, put(200, "az", nine), put(201, "ay", nine))
	wants(t, "page 2", c.page(2), "0 dsn 0 set 0 [97 200 201]: a ay az to b 3")
	dirty('e', 'e')
	c.do(api.ErrFull, put(202, "ax", nine))
	dirty('f', 'g')
	all := func(want api.Errno) {
		t.Helper()
		v, is, e := c.Get("l")
		if e != want || is != (e == api.OK) || (v == "v") != is {
			t.Error(v, is, e)
		}
		l, more, e := c.Scan(api.Range{From: "k"}, 9)
		if e != want || more || e == api.OK && len(l) != 2 || e != api.OK && l != nil {
			t.Error(l, more, e)
		}
		f := c.Forest()
		c.do(want, put(300, "l", "v"))
		c.do(want, put(300, "l", "v"))
		if e != api.OK && !route.Same(f, c.Forest()) {
			t.Error(c.Forest())
		}
	}
	// The last frame is for all others by turns, until it must be written, too: not even the root can be read then.
	v, is, e := c.Get("l")
	wants(t, "get", fmt.Sprint(v, is, e), fmt.Sprint("v", true, api.OK))
	l, more, e := c.Scan(api.Range{}, 5)
	wants(t, "scan", fmt.Sprint(len(l), more, e), fmt.Sprint(5, true, api.OK))
	dirty('h', 'h')
	all(api.ErrFull)
	_, is, e = c.Get("a")
	wants(t, "get", fmt.Sprint(is, e), fmt.Sprint(false, api.ErrFull))
	// The works need no frames to look at pages.
	c.work(api.WkPost, false, api.OK)
	c.work(api.WkMerge, false, api.ErrFull)
	c.Note(999, 0)
	c.works(api.WkFlush)
	all(api.ErrFull)
	c.works(api.WkSync, api.WkFlush, api.WkSync)
	all(api.OK)
}

// Scan reads no leaf behind the range.
func TestScanReadsNoMore(t *testing.T) {
	leaves := chain(0, list(2, 3, 4, 5, 6, 7, 8, 9, 10), "b", "c", "d", "e", "f", "g", "h", "i")
	o := api.CoreOptions{Frames: 8, Most: 400, Cell: 20, In: 10}
	c := booted(t, newDisks(o, 20, 90000).forest(t, append(leaves, over(chain(1, list(1)), leaves, 9)...)...), o)
	c.works(api.WkPost)
	for i, k := range []string{"a", "b", "c", "d", "e", "f", "g"} {
		c.do(api.OK, put(uint64(i+1), k, ""))
	}
	for to, want := range map[string]api.Errno{"h": api.OK, "g": api.OK, "h\x00": api.ErrFull, "i": api.ErrFull} {
		l, more, e := c.Scan(api.Range{To: to, End: true}, 9)
		if e != want || more || (len(l) > 5) != (e == api.OK) || e != api.OK && l != nil {
			t.Error(to, l, more, e)
		}
	}
	for key, want := range map[string]api.Errno{"g": api.OK, "gz": api.OK, "h": api.ErrFull} {
		_, _, e := c.Get(key)
		wants(t, "get "+key, e, want)
	}
	l, more, e := c.Scan(api.Range{}, 6)
	wants(t, "scan", fmt.Sprint(len(l), more, e), fmt.Sprint(6, true, api.OK))
	l, more, e = c.Scan(api.Range{}, 7)
	wants(t, "scan", fmt.Sprint(len(l), more, e), fmt.Sprint(0, false, api.ErrFull))
}

// P18.6: what Get and Scan refuse, and what they find.
func TestGet(t *testing.T) {
	o := api.CoreOptions{Frames: 8, Most: 2000, Cell: 600, In: 3}
	c := booted(t, newDisks(o, 8, 0).forest(t, pair(2)...), o)
	for key, want := range map[string]string{
		"a": "x true 0", "b": "y true 0", "z": " true 0", "m": " false 0", "l": " false 0", "aa": " false 0", "\x00": " false 0", "\xff": " false 0",
		"": " false 3", strings.Repeat("k", 512): " false 0", strings.Repeat("k", 513): " false 3", strings.Repeat("z", 601): " false 3",
	} {
		v, is, e := c.Get(key)
		wants(t, fmt.Sprintf("get %.5q", key), fmt.Sprint(v, " ", is, " ", int(e)), want)
	}
	c = booted(t, newDisks(small, 8, 0).forest(t, pair(2)...), small)
	for n, want := range map[int]api.Errno{20: api.OK, 21: api.ErrLong} {
		_, _, e := c.Get(strings.Repeat("z", n))
		wants(t, fmt.Sprint("get of ", n), e, want)
	}
}

func TestScan(t *testing.T) {
	c := spread(t, small, 12)
	long := strings.Repeat("b", 513)
	for _, w := range []struct {
		r    api.Range
		most int
		want string
	}{
		{api.Range{}, 1, "a more"}, {api.Range{}, 12, "abcdefghijkl"}, {api.Range{}, 11, "abcdefghijk more"}, {api.Range{}, math.MaxInt, "abcdefghijkl"},
		{api.Range{From: "c"}, 2, "cd more"}, {api.Range{From: "c", To: "e", End: true}, 2, "cd"}, {api.Range{From: "c", To: "e\x00", End: true}, 2, "cd more"}, {api.Range{From: "c", To: "e", End: true}, 1, "c more"},
		{api.Range{From: "c\x00", To: "d", End: true}, 9, ""}, {api.Range{From: "l"}, 1, "l"}, {api.Range{From: "m"}, 1, ""}, {api.Range{To: "b", End: true}, 1, "a"}, {api.Range{From: long}, 1, "c more"}, {api.Range{To: long, End: true}, 1, "a more"},
		{api.Range{}, 0, "2"}, {api.Range{}, -1, "2"}, {api.Range{}, math.MinInt, "2"}, {api.Range{From: "b", To: "b", End: true}, 1, "2"}, {api.Range{To: "b"}, 1, "2"}, {api.Range{From: long + "b"}, 1, "2"}, {api.Range{End: true}, 1, "2"},
	} {
		l, more, e := c.Scan(w.r, w.most)
		got := ""
		for _, cell := range l {
			got += cell.Key
		}
		if more {
			got += " more"
		}
		if e != api.OK {
			got += fmt.Sprint(int(e))
		}
		wants(t, fmt.Sprintf("scan %.5q to %.5q %d", w.r.From, w.r.To, w.most), got, w.want)
	}
	// Leaves without cells are passed by.
	c = spread(t, api.CoreOptions{Frames: 20, Most: 40, Cell: 20, In: 10}, 12)
	for k := byte('c'); k < 'k'; k++ {
		c.do(api.OK, del(uint64(k), string(rune(k))))
	}
	l, more, e := c.Scan(api.Range{From: "b"}, 2)
	wants(t, "scan", fmt.Sprint(l, more, e), fmt.Sprint(row("b", "v", "k", "v"), true, api.OK))
}

// R5: what is returned can be changed, and so can what was given.
func TestResultsAreNew(t *testing.T) {
	c := spread(t, small, 3)
	c.do(api.OK, put(7, "a", "x"), put(9, "az", "y"))
	f := c.Forest()
	g := c.Forest()
	for i := range g {
		g[i].Cells[0].Value = "other"
		g[i].Cells = append(g[i].Cells[:1], api.Cell{Key: "other"})
		if len(g[i].Set.In) > 0 {
			g[i].Set.In[0] = 1
			g[i].Set.In = append(g[i].Set.In[:1], 2)
		}
	}
	if !route.Same(f, c.Forest()) {
		t.Error(c.Forest())
	}
	l, _, _ := c.Scan(api.Range{}, 2)
	clear(l)
	l = append(l, api.Cell{Key: "other"})
	if !route.Same(f, c.Forest()) || len(l) != 3 {
		t.Error(c.Forest())
	}
}

// P18.7: each work does one thing.

// WkForce appends all changes that wait, if no number in them is above the stable end, and else forces what is appended.
func TestForce(t *testing.T) {
	c := fresh(t, small)
	c.work(api.WkForce, false, api.OK)
	c.do(api.OK, put(1, "a", nine), put(2, "b", nine), put(3, "c", nine), put(9, "d", nine))
	c.Note(8, 0)
	c.work(api.WkForce, false, api.OK)
	c.Note(9, 0)
	wants(t, "the end", c.d.log.End(), uint64(0))
	c.works(api.WkForce)
	wants(t, "stable", fmt.Sprint(c.Stable(), c.d.log.Sure(), c.d.log.End() > 0), "0 0 true")
	c.do(api.OK, put(12, "e", nine), put(11, "f", nine))
	// The second change waits, as the stable end is too low for it: the first one is forced.
	c.works(api.WkForce)
	wants(t, "stable", fmt.Sprint(c.Stable(), c.d.log.Sure() == c.d.log.End()), "1 true")
	c.work(api.WkForce, false, api.OK)
	c.Note(11, 0)
	c.work(api.WkForce, false, api.OK)
	c.works(api.WkPost)
	c.work(api.WkForce, false, api.OK)
	c.Note(12, 0)
	c.works(api.WkForce)
	wants(t, "stable", c.Stable(), uint64(1))
	c.works(api.WkForce)
	wants(t, "stable", c.Stable(), uint64(3))
	c.work(api.WkForce, false, api.OK)
	s, _ := c.d.log.Read(c.d.log.Base(), c.d.log.End())
	w, e := wal.Open(c.d.log.Copy(), 0)
	if e != api.OK || len(s) == 0 {
		t.Fatal(e)
	}
	var told []string
	for _, r := range w.From(0) {
		made, _ := change.Get(r.Data)
		told = append(told, fmt.Sprint(r.Kind, r.N, change.Number(made), len(made.Pages), made.Gone))
	}
	wants(t, "the records", fmt.Sprint(told), fmt.Sprint([]string{"1 1 1 3 []", "1 2 2 2 []", "1 3 3 1 []"}))
}

// The need is that of the change as it was made, whatever became of its pages.
func TestForceNeedsWhatWasMade(t *testing.T) {
	c := fresh(t, small)
	c.Note(0, 20)
	c.do(api.OK, put(21, "a", nine), put(22, "b", nine), put(23, "c", nine), put(24, "d", nine))
	c.Note(23, 30)
	c.work(api.WkForce, false, api.OK)
	c.Note(24, 0)
	c.works(api.WkForce, api.WkForce)
	c.works(api.WkFlush)
	c.work(api.WkFlush, false, api.OK)
	c.Note(30, 0)
	c.works(api.WkFlush, api.WkFlush, api.WkSync)
}

// WkFlush takes the ready page with the lowest Id, and returns what the vault refuses.
func TestFlush(t *testing.T) {
	c := spread(t, small, 4)
	c.do(api.OK, put(9, "c", "1"), put(4, "b", "1"), put(3, "a", "1"))
	c.Note(2, 0)
	c.work(api.WkFlush, false, api.OK)
	c.Note(8, 0)
	ways := func(want ...uint64) {
		t.Helper()
		n := c.d.pages.Pending()
		wants(t, "pending", n, len(want))
		d := c.d.pages.Copy()
		d.Sync()
		v, _ := vault.Open(d)
		for id := uint64(2); id <= 5; id++ {
			p, _ := v.Get(id)
			wants(t, fmt.Sprint("page ", id, " is written"), p.Cells[0].Value == "1", slices.Contains(want, id))
		}
	}
	c.works(api.WkFlush)
	ways(2)
	c.works(api.WkFlush)
	ways(2, 3)
	c.work(api.WkFlush, false, api.OK)
	c.do(api.OK, put(2, "a", "1"))
	// A page that is being written is not ready, whatever was done to it.
	c.work(api.WkFlush, false, api.OK)
	c.Note(9, 0)
	c.works(api.WkFlush)
	ways(2, 3, 4)
	wants(t, "the oldest", c.Oldest(), uint64(2))
	c.works(api.WkSync)
	c.work(api.WkSync, false, api.OK)
	wants(t, "the oldest", c.Oldest(), uint64(2))
	wants(t, "pending", c.d.pages.Pending(), 0)
	c.works(api.WkFlush, api.WkSync)
	wants(t, "the oldest", c.Oldest(), uint64(0))
}

func TestFlushOfFullTop(t *testing.T) {
	d := newDisks(small, 8, 90000)
	d.pages.Write(2, "\x80"+strings.Repeat("\x00", 63))
	d.pages.Sync()
	c := booted(t, d, small)
	c.Note(99, 0)
	c.do(api.OK, put(1, "a", nine), put(2, "b", nine), put(3, "c", nine), put(4, "d", nine))
	c.works(api.WkForce, api.WkForce, api.WkFlush)
	f := c.Forest()
	for range 2 {
		c.work(api.WkFlush, false, api.ErrFull)
	}
	wants(t, "the oldest", c.Oldest(), uint64(1))
	if !route.Same(f, c.Forest()) {
		t.Error(c.Forest())
	}
	c.works(api.WkSync)
	c.work(api.WkFlush, false, api.ErrFull)
}

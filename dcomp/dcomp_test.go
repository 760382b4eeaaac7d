package dcomp_test

import (
	"encoding/binary"
	"fmt"
	"math"
	"strings"
	"testing"

	"lockkeeper/api"
	"lockkeeper/block"
	"lockkeeper/crc"
	"lockkeeper/dcomp"
	"lockkeeper/letter"
	"lockkeeper/master"
	"lockkeeper/page"
	"lockkeeper/tape"
	"lockkeeper/vault"
)

// small are the options of the tests that don't ask for others: a leaf is split by a fourth cell of 13 bytes.
var small = api.CoreOptions{Frames: 8, Most: 40, Cell: 20, In: 10}

// nine is a value that makes a cell of a key of one byte take 13 bytes.
const nine = "12345678"

func wants(t *testing.T, name string, got, want any) {
	t.Helper()
	if got != want {
		t.Errorf("%s: %v, not %v", name, got, want)
	}
}

// comp is a component with its devices.
type comp struct {
	*testing.T
	*dcomp.Comp
	d disks
}

// opened opens a component that is not up.
func opened(t *testing.T, d disks, o api.CoreOptions) comp {
	t.Helper()
	c, e := d.open(o)
	if e != api.OK {
		t.Fatal("open: ", e)
	}
	return comp{t, c, d}
}

func (c comp) boot() comp {
	c.Helper()
	for i := range 2 {
		is, e := c.Boot()
		wants(c.T, "boot", fmt.Sprint(is, e), fmt.Sprint(i == 1, api.OK))
	}
	return c
}

// fresh is a component of new devices that is up; it knows the epoch te, if that is not 0.
func fresh(t *testing.T, o api.CoreOptions, te uint64) comp {
	t.Helper()
	c := opened(t, newDisks(o, 20, 200000), o).boot()
	if te > 0 {
		c.says(hello(te, 0), welcome(te, 1))
	}
	return c
}

// says holds the answer to a message against the one that is wanted.
func (c comp) says(l, want api.Letter) {
	c.Helper()
	s, is := c.Take(bytesOf(c.T, l))
	a, e := letter.Get(s)
	if !is || e != api.OK || !letter.Same(a, want) {
		c.Errorf("%+v: %+v %v %v, not %+v", l, a, is, e, want)
	}
}

// silent sends messages that get no answer.
func (c comp) silent(l ...api.Letter) {
	c.Helper()
	for _, m := range l {
		c.mute(bytesOf(c.T, m))
	}
}

func (c comp) mute(s string) {
	c.Helper()
	if a, is := c.Take(s); a != "" || is {
		c.Errorf("%q: %q %v", s, a, is)
	}
}

// state is all that can be seen.
func (c comp) state() string { return seen(c, c.Known()) + c.d.told() }

// still sends messages that get no answer and change nothing.
func (c comp) still(l ...api.Letter) {
	c.Helper()
	for _, m := range l {
		was := c.state()
		c.silent(m)
		if c.state() != was {
			c.Errorf("%+v changed something", m)
		}
	}
}

// is holds the epoch that is known, whether the component is up, and its epoch.
func (c comp) is(known uint64, up bool, epoch uint64) {
	c.Helper()
	wants(c.T, "known, up, epoch", fmt.Sprint(c.Known(), c.Up(), c.Epoch()), fmt.Sprint(known, up, epoch))
}

func (c comp) work(kind uint8, is bool, want api.Errno) {
	c.Helper()
	did, e := c.Work(kind)
	wants(c.T, fmt.Sprint("work ", kind), fmt.Sprint(did, e), fmt.Sprint(is, want))
}

// leaf is the Set and the keys of the only page.
func (c comp) leaf(want string) {
	c.Helper()
	f := c.Forest()
	if len(f) != 1 {
		c.Fatalf("the forest: %v", f)
	}
	s := fmt.Sprint(f[0].Set.Low, f[0].Set.In)
	for _, cell := range f[0].Cells {
		s += " " + cell.Key
	}
	wants(c.T, "the leaf", s, want)
}

// The messages of the transaction component.
func hello(te, a uint64) api.Letter { return api.Letter{Kind: api.LtHello, Te: te, A: a} }

func do(te, de, n uint64, key, value string) api.Letter {
	return api.Letter{Kind: api.LtDo, Te: te, De: de, Op: api.Op{Lsn: n, Key: key, Value: value}}
}

func del(te, de, n uint64, key string) api.Letter {
	return api.Letter{Kind: api.LtDo, Te: te, De: de, Op: api.Op{Lsn: n, Key: key, Del: true}}
}

func get(te, de, n uint64, key string) api.Letter {
	return api.Letter{Kind: api.LtGet, Te: te, De: de, N: n, Op: api.Op{Key: key}}
}

func scan(te, de, n uint64, r api.Range, most uint64) api.Letter {
	return api.Letter{Kind: api.LtScan, Te: te, De: de, N: n, R: r, A: most}
}

func marks(te, de, a, b uint64) api.Letter {
	return api.Letter{Kind: api.LtMarks, Te: te, De: de, A: a, B: b}
}

func check(te, de, a uint64) api.Letter { return api.Letter{Kind: api.LtCheck, Te: te, De: de, A: a} }

// The answers of the data component.
func welcome(te, de uint64) api.Letter { return api.Letter{Kind: api.LtWelcome, Te: te, De: de} }

func done(te, de, n uint64) api.Letter { return api.Letter{Kind: api.LtDone, Te: te, De: de, N: n} }

func got(te, de, n uint64, value string) api.Letter {
	return api.Letter{Kind: api.LtGot, Te: te, De: de, N: n, Is: true, Op: api.Op{Value: value}}
}

func notFound(te, de, n uint64) api.Letter {
	return api.Letter{Kind: api.LtGot, Te: te, De: de, N: n}
}

func rows(te, de, n uint64, more bool, words ...string) api.Letter {
	l := api.Letter{Kind: api.LtRows, Te: te, De: de, N: n, Is: more}
	for i := 0; i+1 < len(words); i += 2 {
		l.Cells = append(l.Cells, api.Cell{Key: words[i], Value: words[i+1]})
	}
	return l
}

func oldest(te, de, a, b uint64) api.Letter {
	return api.Letter{Kind: api.LtOldest, Te: te, De: de, A: a, B: b}
}

// each is one message of each kind but LtHello.
func each(te, de uint64) []api.Letter {
	return []api.Letter{
		do(te, de, 9, "k", "v"),
		del(te, de, 9, "a"),
		get(te, de, 3, "a"),
		scan(te, de, 4, api.Range{}, 64),
		marks(te, de, 7, 6),
		check(te, de, 5),
	}
}

// P21.1: Open returns the core's errors, and no component then.
func TestOpenErrors(t *testing.T) {
	d := newDisks(small, 20, 200000)
	wide, _ := block.New(40, 4)
	narrow, _ := block.New(1, 1)
	bad := d.copy()
	bad.heart.Write(0, strings.Repeat("x", 64))
	damaged := d.copy()
	m, _ := master.Open(damaged.heart)
	m.Put("no marks")
	m.Sync()
	wrong := small
	wrong.Frames = 7
	for name, x := range map[string]struct {
		d    disks
		o    api.CoreOptions
		want api.Errno
	}{
		"no pages":          {disks{nil, d.heart, d.log}, small, api.ErrNil},
		"no heart":          {disks{d.pages, nil, d.log}, small, api.ErrNil},
		"no log":            {disks{d.pages, d.heart, nil}, small, api.ErrNil},
		"zero pages":        {disks{&block.Dev{}, d.heart, d.log}, small, api.ErrNil},
		"zero log":          {disks{d.pages, d.heart, &tape.Tape{}}, small, api.ErrNil},
		"wrong options":     {d, wrong, api.ErrArg},
		"no options":        {d, api.CoreOptions{}, api.ErrArg},
		"no device first":   {disks{}, wrong, api.ErrNil},
		"blocks too short":  {disks{wide, d.heart, d.log}, small, api.ErrArg},
		"heart too small":   {disks{d.pages, narrow, d.log}, small, api.ErrArg},
		"no core's devices": {damaged, small, api.ErrCore},
	} {
		c, e := x.d.open(x.o)
		_, want := x.d.openCore(x.o)
		wants(t, name, e, x.want)
		wants(t, name+", as the core", e, want)
		wants(t, name+", no component", c, (*dcomp.Comp)(nil))
	}
	if c, e := bad.open(small); e != api.OK || c.Epoch() != 1 {
		t.Error("bytes of no string: ", e)
	}
}

// P21.1: a component is opened not up, knows no epoch, and has the forest of its devices.
func TestOpen(t *testing.T) {
	c := opened(t, newDisks(small, 20, 200000), small)
	c.is(0, false, 1)
	c.leaf("0 []")
	c.boot().is(0, true, 1)
	c.says(hello(4, 9), welcome(4, 1))
	c.says(do(4, 1, 9, "a", "x"), done(4, 1, 9))
	c.work(api.WkFlush, true, api.OK)
	c.work(api.WkSync, true, api.OK)
	c.says(do(4, 1, 10, "b", "x"), done(4, 1, 10))
	c.d.pages.Crash(nil)
	c.d.heart.Crash(nil)
	c.d.log.Crash(0)
	again := opened(t, c.d, small)
	again.is(0, false, 2)
	again.leaf("0 [9] a")
	again.boot().is(0, true, 2)
}

// P21.1: Boot, Work and the inspection are those of the core.
func TestIsAsItsCore(t *testing.T) {
	c := opened(t, newDisks(small, 20, 200000), small)
	core, _ := c.d.copy().openCore(small)
	same := func(name string) {
		t.Helper()
		wants(t, name, seen(c, 0), seen(core, 0))
	}
	both := func(name string, kind uint8) {
		t.Helper()
		is, e := c.Work(kind)
		are, f := core.Work(kind)
		wants(t, fmt.Sprint(name, " work ", kind), fmt.Sprint(is, e), fmt.Sprint(are, f))
		same(name)
	}
	both("not up", api.WkFlush)
	for range 3 {
		is, e := c.Boot()
		are, f := core.Boot()
		wants(t, "boot", fmt.Sprint(is, e), fmt.Sprint(are, f))
		same("boot")
	}
	c.says(hello(1, 100), welcome(1, 1))
	core.Note(100, 0)
	for i, key := range []string{"a", "b", "c", "d", "e", "f"} {
		n := uint64(i + 7)
		c.says(do(1, 1, n, key, nine), done(1, 1, n))
		core.Do(api.Op{Lsn: n, Key: key, Value: nine})
	}
	same("after operations")
	for round := range 3 {
		for kind := range 256 {
			both(fmt.Sprint("round ", round), uint8(kind))
		}
	}
	wants(t, "stable", c.Stable() > 0, true)
	wants(t, "known", c.Known(), uint64(1))
}

// P21.1, P21.2: what no call made is no component.
func TestNone(t *testing.T) {
	for name, none := range map[string]*dcomp.Comp{"nil": nil, "zero": {}} {
		c := comp{t, none, disks{}}
		is, e := c.Boot()
		wants(t, name+" boot", fmt.Sprint(is, e), fmt.Sprint(false, api.ErrNil))
		for _, kind := range []uint8{0, 1, 7, 8, 255} {
			c.work(kind, false, api.ErrNil)
		}
		c.silent(append(each(1, 1), hello(1, 1))...)
		c.mute("")
		c.is(0, false, 0)
		wants(t, name, fmt.Sprint(c.Oldest(), c.Stable(), len(c.Forest())), "0 0 0")
	}
}

// R5: what is returned is apart from the component.
func TestForestIsNew(t *testing.T) {
	c := fresh(t, small, 1)
	c.says(do(1, 1, 5, "a", "x"), done(1, 1, 5))
	f := c.Forest()
	f[0].Set.In[0], f[0].Cells[0].Key, f[0].Id = 6, "b", 7
	c.leaf("0 [5] a")
}

// sealed is bytes of that kind that are sealed as a message's, but have nothing but epochs.
func sealed(kind byte) string {
	b := binary.BigEndian.AppendUint64([]byte{kind}, 1)
	return string(crc.Seal(binary.BigEndian.AppendUint64(b, 1)))
}

// P21.2: what is no message of the transaction component gets no answer, and changes nothing.
func TestNoMessages(t *testing.T) {
	good := bytesOf(t, do(1, 1, 9, "k", "v"))
	wrong := []string{"", "x", good[1:], good[:len(good)-1], good + "x", good + good, "x" + good, strings.Repeat("x", api.MaxLetter+1)}
	for i := range len(good) {
		wrong = append(wrong, good[:i]+string(good[i]^1)+good[i+1:])
	}
	for kind := range 256 {
		wrong = append(wrong, sealed(byte(kind)))
	}
	for _, a := range []api.Letter{welcome(1, 1), done(1, 1, 9), got(1, 1, 9, "x"), notFound(1, 1, 9), rows(1, 1, 9, true, "a", "b"), oldest(1, 1, 2, 3), welcome(2, 1), done(2, 1, 9), welcome(1, 2)} {
		wrong = append(wrong, bytesOf(t, a))
	}
	for _, c := range []comp{opened(t, newDisks(small, 20, 200000), small), fresh(t, small, 0), fresh(t, small, 1)} {
		was := c.state()
		for _, s := range wrong {
			c.mute(s)
		}
		wants(t, "something changed", c.state() != was, false)
	}
}

// P21.2: a LtHello before an epoch is known, or of the one that is known, opens nothing again.
func TestHello(t *testing.T) {
	c := opened(t, newDisks(small, 20, 200000), small)
	c.silent(hello(3, 9))
	c.is(3, false, 1)
	c.silent(hello(3, 9))
	c.is(3, false, 1)
	c.boot()
	c.says(hello(3, 0), welcome(3, 1))
	c.says(do(3, 1, 5, "a", "x"), done(3, 1, 5))
	c.still(hello(2, 9), hello(1, maxLsn))
	c.says(hello(3, 0), welcome(3, 1))
	c.is(3, true, 1)
	c.leaf("0 [5] a")

	late := fresh(t, small, 0)
	late.says(hello(maxLsn, 0), welcome(maxLsn, 1))
	late.is(maxLsn, true, 1)
	late.still(hello(maxLsn-1, 0), hello(1, 0))
}

// P21.2: A of a LtHello is noted as the stable end, with the low 0, if the component is up.
func TestHelloNotes(t *testing.T) {
	c := opened(t, newDisks(small, 20, 200000), small)
	c.silent(hello(1, 9))
	c.boot()
	c.says(hello(1, 4), welcome(1, 1))
	c.says(do(1, 1, 5, "a", "x"), done(1, 1, 5))
	// That the stable end is 9 was told to a component that was not up.
	c.work(api.WkFlush, false, api.OK)
	c.says(hello(1, 5), welcome(1, 1))
	c.leaf("0 [5] a")
	c.says(hello(1, 4), welcome(1, 1))
	c.work(api.WkFlush, true, api.OK)
	c.work(api.WkSync, true, api.OK)

	// Of the first epoch that it knows too.
	c = fresh(t, small, 0)
	c.says(hello(1, 5), welcome(1, 1))
	c.says(do(1, 1, 5, "a", "x"), done(1, 1, 5))
	c.work(api.WkFlush, true, api.OK)
}

// P21.2: a LtHello of a later epoch stops the core and opens it again, whether it is up or not.
func TestHelloOpensAgain(t *testing.T) {
	for _, te := range []uint64{2, 3, maxLsn} {
		c := fresh(t, small, 1)
		c.says(do(1, 1, 5, "a", "x"), done(1, 1, 5))
		c.silent(marks(1, 1, 5, 0))
		c.work(api.WkFlush, true, api.OK)
		c.says(do(1, 1, 6, "b", "lost"), done(1, 1, 6))
		// The page that was being written is durable by the stop; A is not noted, as the core is not up.
		c.silent(hello(te, 9))
		c.is(te, false, 2)
		c.leaf("0 [5] a")
		wants(t, "pending writes", c.d.pages.Pending(), 0)
		c.still(append(each(te, 2), hello(te, 9), hello(te-1, 9))...)
		c.boot()
		c.still(each(te-1, 2)...)
		c.says(hello(te, 0), welcome(te, 2))
		c.says(do(te, 2, 6, "c", "y"), done(te, 2, 6))
		c.leaf("0 [5 6] a c")
		c.work(api.WkFlush, false, api.OK)
		// The options are the same as before.
		c.says(do(te, 2, 7, "1234567890", "1234567890"), done(te, 2, 7))
		c.still(do(te, 2, 8, "1234567890", "12345678901"))
	}
}

// P21.2: a core that is not up is stopped too: what Boot wrote becomes durable.
func TestHelloStopsWhatIsNotUp(t *testing.T) {
	c := opened(t, newDisks(small, 20, 200000), small)
	c.silent(hello(1, 0), hello(2, 0), hello(3, 0))
	c.is(3, false, 1)
	c.Boot()
	c.silent(hello(3, 0))
	c.is(3, false, 1)
	c.silent(hello(4, 0))
	c.is(4, false, 2)
	wants(t, "pending writes", c.d.heart.Pending(), 0)
}

// setString puts a string into the master of devices.
func (d disks) setString(t *testing.T, s string) {
	t.Helper()
	m, _ := master.Open(d.heart)
	wants(t, "master.Put", m.Put(s), api.OK)
	m.Sync()
}

// epochIs is a master's string of a core.
func epochIs(epoch uint64) string {
	return string(binary.BigEndian.AppendUint64(binary.BigEndian.AppendUint64(nil, epoch), 1))
}

// P21.2: if the core can't be opened again, there is none any more, until it can be.
func TestHelloOfLostDevices(t *testing.T) {
	c := fresh(t, small, 1)
	c.says(do(1, 1, 5, "a", "x"), done(1, 1, 5))
	c.d.setString(t, "no marks")
	c.silent(hello(2, 0))
	for _, te := range []uint64{2, 2, 3} {
		if te > c.Known() {
			c.silent(hello(te, 0))
		}
		c.is(te, false, 0)
		is, e := c.Boot()
		wants(t, "boot", fmt.Sprint(is, e), fmt.Sprint(false, api.ErrNil))
		c.work(api.WkFlush, false, api.ErrNil)
		wants(t, "inspection", fmt.Sprint(c.Oldest(), c.Stable(), len(c.Forest())), "0 0 0")
		c.still(each(te, 0)...)
		c.still(each(te, 1)...)
		c.still(each(te+1, 0)...)
		c.still(hello(te, 0), hello(te-1, 0))
	}
	c.d.setString(t, epochIs(6))
	c.still(hello(3, 0))
	c.silent(hello(4, 0))
	c.is(4, false, 7)
	c.boot()
	c.says(hello(4, 0), welcome(4, 7))
	c.leaf("0 []")
}

// P21.2: all other messages need a component that is up.
func TestNotUp(t *testing.T) {
	c := opened(t, newDisks(small, 20, 200000), small)
	for _, te := range []uint64{1, 2, maxLsn} {
		c.still(append(each(te, 1), each(te, 0)...)...)
	}
	c.Boot()
	c.still(each(1, 1)...)
	c.silent(hello(2, 0))
	c.still(append(each(2, 1), each(1, 1)...)...)
	c.still(append(each(3, 1), each(2, 0)...)...)
	c.is(2, false, 1)
}

// P21.2: a component that knows no epoch gets to know that of any message, which has no other effect.
func TestGetsToKnow(t *testing.T) {
	for _, te := range []uint64{1, 7, maxLsn} {
		for _, de := range []uint64{0, 1, 2, maxLsn} {
			for _, l := range each(te, de) {
				c := fresh(t, small, 0)
				was := c.d.told()
				c.says(l, welcome(te, 1))
				c.is(te, true, 1)
				c.leaf("0 []")
				wants(t, "the devices changed", c.d.told() != was, false)
				c.says(do(te, 1, 6, "a", "x"), done(te, 1, 6))
				c.leaf("0 [6] a")
				c.work(api.WkFlush, false, api.OK)
			}
		}
	}
}

// P21.2, P21.4: a message of another epoch of the transaction component gets no answer, one of another epoch of the data component LtWelcome; neither has an effect.
func TestOtherEpochs(t *testing.T) {
	c := fresh(t, small, 5)
	c.says(do(5, 1, 5, "a", "x"), done(5, 1, 5))
	for _, te := range []uint64{1, 4, 6, maxLsn} {
		for _, de := range []uint64{0, 1, 2} {
			c.still(each(te, de)...)
		}
	}
	for _, de := range []uint64{0, 2, 3, maxLsn} {
		for _, l := range each(5, de) {
			was := c.state()
			c.says(l, welcome(5, 1))
			wants(t, fmt.Sprintf("%+v changed something", l), c.state() != was, false)
		}
	}
	// None of the marks was noted.
	c.work(api.WkFlush, false, api.OK)
	c.silent(marks(5, 1, 5, 0))
	c.work(api.WkFlush, true, api.OK)
}

// P21.2: LtDo does an operation; it gets no answer if that is refused.
func TestDo(t *testing.T) {
	c := fresh(t, small, 2)
	c.says(do(2, 1, 5, "a", "x"), done(2, 1, 5))
	c.says(do(2, 1, 5, "a", "x"), done(2, 1, 5))
	c.says(do(2, 1, 5, "b", "y"), done(2, 1, 5))
	c.leaf("0 [5] a")
	c.says(do(2, 1, maxLsn, "b", ""), done(2, 1, maxLsn))
	c.says(del(2, 1, 8, "a"), done(2, 1, 8))
	c.says(del(2, 1, 7, "none"), done(2, 1, 7))
	c.leaf(fmt.Sprintf("0 [5 7 8 %d] b", maxLsn))
	c.still(do(2, 1, 9, strings.Repeat("k", 21), ""), do(2, 1, 9, "k", strings.Repeat("v", 20)), del(2, 1, 9, strings.Repeat("k", 512)), do(2, 1, 9, "k", strings.Repeat("v", 2048)))

	// A Set that takes no greater number any more.
	o := small
	o.In = 1
	c = fresh(t, o, 1)
	c.says(do(1, 1, 5, "a", "x"), done(1, 1, 5))
	c.still(do(1, 1, 6, "b", "y"))
	c.says(do(1, 1, 4, "c", "y"), done(1, 1, 4))
	c.silent(marks(1, 1, 0, 5))
	c.says(do(1, 1, 6, "b", "y"), done(1, 1, 6))
	c.leaf("5 [6] a b c")
}

// P21.2: LtGet and LtScan tell what keys have.
func TestGetAndScan(t *testing.T) {
	c := fresh(t, small, 2)
	c.says(get(2, 1, 1, "a"), notFound(2, 1, 1))
	c.says(scan(2, 1, 1, api.Range{}, 1), rows(2, 1, 1, false))
	for i, key := range []string{"a", "b", "c", "d", "e"} {
		n := uint64(i + 1)
		c.says(do(2, 1, n, key, nine+key), done(2, 1, n))
	}
	c.says(do(2, 1, 6, "bb", ""), done(2, 1, 6))
	c.says(get(2, 1, 9, "a"), got(2, 1, 9, nine+"a"))
	c.says(get(2, 1, maxLsn, "e"), got(2, 1, maxLsn, nine+"e"))
	c.says(get(2, 1, 9, "bb"), got(2, 1, 9, ""))
	c.says(get(2, 1, 9, "f"), notFound(2, 1, 9))
	c.says(get(2, 1, 9, strings.Repeat("k", 20)), notFound(2, 1, 9))
	c.still(get(2, 1, 9, strings.Repeat("k", 21)), get(2, 1, 9, strings.Repeat("k", 512)))
	all := []string{"a", nine + "a", "b", nine + "b", "bb", "", "c", nine + "c", "d", nine + "d", "e", nine + "e"}
	for most := range 6 {
		c.says(scan(2, 1, 9, api.Range{}, uint64(most+1)), rows(2, 1, 9, most < 5, all[:2*most+2]...))
	}
	c.says(scan(2, 1, 9, api.Range{}, 64), rows(2, 1, 9, false, all...))
	c.says(scan(2, 1, maxLsn, api.Range{From: "b", To: "c", End: true}, 2), rows(2, 1, maxLsn, false, all[2:6]...))
	c.says(scan(2, 1, 9, api.Range{From: "b", To: "c", End: true}, 1), rows(2, 1, 9, true, all[2:4]...))
	c.says(scan(2, 1, 9, api.Range{From: "c"}, 2), rows(2, 1, 9, true, all[6:10]...))
	c.says(scan(2, 1, 9, api.Range{From: "x"}, 2), rows(2, 1, 9, false))
}

// P21.2: a scan may ask for as many cells as a message can have.
func TestScanOfMany(t *testing.T) {
	o := api.CoreOptions{Frames: 8, Most: 2000, Cell: 20, In: 100}
	c := fresh(t, o, 1)
	var words []string
	for i := range 66 {
		key := fmt.Sprintf("%02d", i)
		c.says(do(1, 1, uint64(i+1), key, "v"+key), done(1, 1, uint64(i+1)))
		words = append(words, key, "v"+key)
	}
	c.says(scan(1, 1, 3, api.Range{}, 64), rows(1, 1, 3, true, words[:128]...))
	c.says(scan(1, 1, 3, api.Range{}, 63), rows(1, 1, 3, true, words[:126]...))
	c.says(scan(1, 1, 3, api.Range{From: "02"}, 64), rows(1, 1, 3, false, words[4:]...))
}

// P21.2: LtMarks tells both marks, and has no answer; LtCheck asks for the oldest operation that may not be durable.
func TestMarksAndCheck(t *testing.T) {
	c := fresh(t, small, 2)
	c.says(check(2, 1, 0), oldest(2, 1, 0, 0))
	c.says(do(2, 1, 5, "a", "x"), done(2, 1, 5))
	c.says(do(2, 1, 8, "b", "x"), done(2, 1, 8))
	c.says(check(2, 1, 4), oldest(2, 1, 4, 5))
	c.silent(marks(2, 1, 7, 0))
	c.work(api.WkFlush, false, api.OK)
	c.leaf("0 [5 8] a b")
	c.silent(marks(2, 1, 0, 6))
	c.leaf("6 [8] a b")
	c.silent(marks(2, 1, 8, 5))
	c.leaf("6 [8] a b")
	c.work(api.WkFlush, true, api.OK)
	c.says(check(2, 1, maxLsn), oldest(2, 1, maxLsn, 5))
	c.work(api.WkSync, true, api.OK)
	c.says(check(2, 1, maxLsn), oldest(2, 1, maxLsn, 0))
	c.silent(marks(2, 1, maxLsn, maxLsn))
	c.leaf(fmt.Sprintf("%d [] a b", maxLsn))
	c.says(do(2, 1, maxLsn, "c", "x"), done(2, 1, maxLsn))
	c.leaf(fmt.Sprintf("%d [] a b", maxLsn))
}

// spread is devices with a tree of twelve leaves, with one key each: a, b, c and so on.
func spread(t *testing.T) disks {
	t.Helper()
	d := newDisks(small, 40, 200000)
	v, _ := vault.Open(d.pages)
	root := api.Page{Id: 1, Level: 1}
	for i := range 12 {
		id, key := uint64(i+2), string(rune('a'+i))
		p := api.Page{Id: id, Right: id + 1, Low: key, High: string(rune('b' + i)), End: true, Cells: []api.Cell{{Key: key, Value: "v"}}}
		if i == 0 {
			p.Low = ""
		}
		if i == 11 {
			p.Right, p.High, p.End = 0, "", false
		}
		child, _ := page.Kid(id)
		root.Cells = append(root.Cells, api.Cell{Key: p.Low, Value: child})
		wants(t, "vault.Put", v.Put(p), api.OK)
	}
	wants(t, "vault.Put", v.Put(root), api.OK)
	v.Sync()
	return d
}

// P21.2, P21.3: while the pool can make no room, there is no answer, also where there was one before.
func TestNoRoomInThePool(t *testing.T) {
	c := opened(t, spread(t), small).boot()
	c.says(hello(1, 0), welcome(1, 1))
	for i := range 8 {
		n := uint64(i + 1)
		c.says(do(1, 1, n, string(rune('a'+i)), "w"), done(1, 1, n))
	}
	all := []api.Letter{get(1, 1, 7, "l"), scan(1, 1, 7, api.Range{From: "k"}, 9), do(1, 1, 9, "k", "w"), do(1, 1, 8, "h", "w")}
	c.still(all...)
	c.says(check(1, 1, 7), oldest(1, 1, 7, 1))
	c.still(all...)
	c.says(hello(1, 1), welcome(1, 1))
	c.work(api.WkFlush, true, api.OK)
	c.work(api.WkSync, true, api.OK)
	c.says(all[0], got(1, 1, 7, "v"))
	c.says(all[1], rows(1, 1, 7, false, "k", "v", "l", "v"))
	c.says(all[3], done(1, 1, 8))
	c.silent(marks(1, 1, 9, 0))
	for range 8 {
		c.Work(api.WkFlush)
	}
	c.work(api.WkSync, true, api.OK)
	c.says(all[2], done(1, 1, 9))
	c.says(all[1], rows(1, 1, 7, false, "k", "w", "l", "v"))
}

// P21.2: the last epochs: an answer from behind MaxLsn would be no message.
func TestLastEpochs(t *testing.T) {
	d := newDisks(small, 20, 200000)
	d.setString(t, epochIs(maxLsn-1))
	c := opened(t, d, small)
	c.is(0, false, maxLsn)
	c.boot()
	c.says(hello(1, 0), welcome(1, maxLsn))
	c.says(do(1, maxLsn, 5, "a", "x"), done(1, maxLsn, 5))
	c.says(do(1, maxLsn-1, 6, "a", "x"), welcome(1, maxLsn))
	c.silent(hello(2, 0))
	c.boot()
	c.is(2, true, maxLsn+1)
	c.still(hello(2, 0))
	c.still(each(2, maxLsn)...)
	c.silent(hello(3, 0))
	c.is(3, false, 0)
}

// The chapter's examples.
func TestExamples(t *testing.T) {
	c := fresh(t, small, 0)
	c.is(0, true, 1)
	c.says(do(1, 1, 1, "a", "x"), welcome(1, 1))
	c.says(do(1, 1, 1, "a", "x"), done(1, 1, 1))
	c.says(do(1, 1, 1, "a", "x"), done(1, 1, 1))
	c.says(do(1, 2, 1, "a", "x"), welcome(1, 1))
	c.says(get(1, 1, 7, "a"), got(1, 1, 7, "x"))
	c.silent(hello(2, 0))
	c.boot()
	c.says(hello(2, 0), welcome(2, 2))
	c.says(get(2, 2, 8, "a"), notFound(2, 2, 8))
}

// Numbers of all sizes are as good as others, wherever a message may have them.
func TestGreatNumbers(t *testing.T) {
	c := fresh(t, small, maxLsn)
	c.says(check(maxLsn, 1, maxLsn), oldest(maxLsn, 1, maxLsn, 0))
	for _, n := range []uint64{1, math.MaxUint32, maxLsn} {
		c.says(get(maxLsn, 1, n, "a"), notFound(maxLsn, 1, n))
		c.says(scan(maxLsn, 1, n, api.Range{}, 3), rows(maxLsn, 1, n, false))
	}
	c.says(do(maxLsn, 1, maxLsn, "a", ""), done(maxLsn, 1, maxLsn))
	c.says(check(maxLsn, 1, 0), oldest(maxLsn, 1, 0, maxLsn))
}

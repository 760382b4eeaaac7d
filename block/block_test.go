package block_test

import (
	"math"
	"math/rand"
	"slices"
	"strconv"
	"strings"
	"testing"

	"lockkeeper/api"
	"lockkeeper/block"
)

func made(t *testing.T, blocks, sectors int) *block.Dev {
	t.Helper()
	d, e := block.New(blocks, sectors)
	if d == nil || e != api.OK {
		t.Fatalf("New(%d, %d): %v", blocks, sectors, e)
	}
	return d
}

func wants(t *testing.T, name string, got, want api.Errno) {
	t.Helper()
	if got != want {
		t.Errorf("%s: %v, not %v", name, got, want)
	}
}

// reads checks the visible bytes of a block: want, and bytes 0 behind it.
func reads(t *testing.T, d *block.Dev, b int, want string) {
	t.Helper()
	got, e := d.Read(b)
	if e != api.OK || got != padded(want, d.Size()) {
		t.Errorf("Read(%d): %s, %v, not %s", b, show(got), e, show(want))
	}
}

func padded(s string, size int) string { return s + strings.Repeat("\x00", size-len(s)) }

// rows returns a sector for each byte, filled with it.
func rows(s string) string {
	var all strings.Builder
	for i := range len(s) {
		all.WriteString(strings.Repeat(s[i:i+1], api.SectorSize))
	}
	return all.String()
}

// show is a text by its runs of the same byte.
func show(s string) string {
	out := ""
	for s != "" {
		n := 1
		for n < len(s) && s[n] == s[0] {
			n++
		}
		out += strconv.Quote(s[:1]) + "*" + strconv.Itoa(n) + " "
		s = s[n:]
	}
	return out
}

// none returns what is no object.
func none() map[string]*block.Dev { return map[string]*block.Dev{"nil": nil, "zero": {}} }

// plain is a device as the chapter's Terms define it, sector by sector.
type plain struct {
	sectors          int
	visible, durable []string
	pending          []plainWrite
}

type plainWrite struct {
	b int
	s string
}

func newPlain(blocks, sectors int) *plain {
	zero := padded("", sectors*api.SectorSize)
	p := &plain{sectors: sectors}
	for range blocks {
		p.visible, p.durable = append(p.visible, zero), append(p.durable, zero)
	}
	return p
}

func (p *plain) write(b int, s string) {
	p.visible[b] = padded(s, p.sectors*api.SectorSize)
	p.pending = append(p.pending, plainWrite{b, p.visible[b]})
}

func (p *plain) sync() {
	p.durable, p.pending = slices.Clone(p.visible), nil
}

func (p *plain) crash(keep []uint64) {
	for n, w := range p.pending {
		var number uint64
		if n < len(keep) {
			number = keep[n]
		}
		var now strings.Builder
		for i := range p.sectors {
			source := p.durable[w.b]
			if number&(1<<(i%64)) != 0 {
				source = w.s
			}
			now.WriteString(source[i*api.SectorSize : (i+1)*api.SectorSize])
		}
		p.durable[w.b] = now.String()
	}
	p.visible, p.pending = slices.Clone(p.durable), nil
}

// same checks all that can be read of a device.
func (p *plain) same(t *testing.T, name string, d *block.Dev) {
	t.Helper()
	if d.Blocks() != len(p.visible) || d.Size() != p.sectors*api.SectorSize || d.Pending() != len(p.pending) {
		t.Fatalf("%s: %d blocks of %d bytes, %d pending", name, d.Blocks(), d.Size(), d.Pending())
	}
	for b, want := range p.visible {
		if got, e := d.Read(b); got != want || e != api.OK {
			t.Fatalf("%s: block %d: %s, %v, not %s", name, b, show(got), e, show(want))
		}
	}
}

// P5.1

func TestNew(t *testing.T) {
	for _, c := range []struct{ blocks, sectors int }{
		{1, 1}, {1, 2}, {2, 1}, {2, 2}, {3, 5}, {1000, 1}, {999, 2}, {1, 255}, {1, 256}, {1000, 256},
	} {
		name := strconv.Itoa(c.blocks) + " of " + strconv.Itoa(c.sectors)
		d := made(t, c.blocks, c.sectors)
		if d.Blocks() != c.blocks || d.Size() != c.sectors*64 || d.Pending() != 0 {
			t.Errorf("%s: %d of %d bytes, %d pending", name, d.Blocks(), d.Size(), d.Pending())
		}
		for b := range c.blocks {
			reads(t, d, b, "")
		}
		d.Crash(nil)
		for b := range c.blocks {
			reads(t, d, b, "")
		}
	}
}

func TestNewOfWrongNumbers(t *testing.T) {
	wrongBlocks := []int{0, -1, 1001, 1002, 1 << 20, math.MaxInt32, math.MinInt32, math.MaxInt, math.MinInt}
	wrongSectors := []int{0, -1, 257, 258, 1 << 20, math.MaxInt32, math.MinInt32, math.MaxInt, math.MinInt}
	refused := func(blocks, sectors int) {
		t.Helper()
		if d, e := block.New(blocks, sectors); d != nil || e != api.ErrArg {
			t.Errorf("New(%d, %d): %v, %v", blocks, sectors, d != nil, e)
		}
	}
	for _, blocks := range wrongBlocks {
		for _, sectors := range append(wrongSectors, 1, 2, 256) {
			refused(blocks, sectors)
		}
	}
	for _, sectors := range wrongSectors {
		for _, blocks := range []int{1, 2, 256, 257, 1000} {
			refused(blocks, sectors)
		}
	}
}

func TestDevicesAreApart(t *testing.T) {
	a, b := made(t, 2, 1), made(t, 2, 1)
	wants(t, "Write", a.Write(0, "a"), api.OK)
	reads(t, b, 0, "")
	if b.Pending() != 0 {
		t.Error(b.Pending())
	}
}

// P5.2

func TestWriteAndRead(t *testing.T) {
	d := made(t, 3, 2)
	for _, s := range []string{
		"a", "", "\x00", "\x00\xff\x80", rows("x"), rows("xy"), rows("x")[:63], rows("xy")[:65], rows("xy")[:127], "b",
	} {
		for b := range 3 {
			wants(t, "Write", d.Write(b, s), api.OK)
			reads(t, d, b, s)
			reads(t, d, b, s)
		}
	}
	large := made(t, 1000, 256)
	text := strings.Repeat("0123456789abcde", 1093)[:256*64]
	for _, b := range []int{0, 1, 998, 999} {
		wants(t, "Write", large.Write(b, text), api.OK)
		reads(t, large, b, text)
	}
	reads(t, large, 2, "")
	reads(t, large, 997, "")
}

func TestEachByteIsRead(t *testing.T) {
	var all [256]byte
	for i := range all {
		all[i] = byte(i)
	}
	d := made(t, 1, 4)
	wants(t, "Write", d.Write(0, string(all[:])), api.OK)
	reads(t, d, 0, string(all[:]))
	d.Crash([]uint64{15})
	reads(t, d, 0, string(all[:]))
}

func TestWriteAndReadErrors(t *testing.T) {
	d := made(t, 2, 2)
	wants(t, "Write", d.Write(0, "a"), api.OK)
	wants(t, "Write", d.Write(1, rows("bc")), api.OK)
	for _, b := range []int{-1, 2, 3, 128, math.MaxInt32, math.MinInt32, math.MaxInt, math.MinInt} {
		name := strconv.Itoa(b)
		wants(t, "Write to "+name, d.Write(b, "x"), api.ErrArg)
		wants(t, "Write of nothing to "+name, d.Write(b, ""), api.ErrArg)
		wants(t, "Write of too much to "+name, d.Write(b, rows("xyz")), api.ErrArg)
		if s, e := d.Read(b); s != "" || e != api.ErrArg {
			t.Errorf("Read of %s: %s, %v", name, show(s), e)
		}
	}
	for b := range 2 {
		wants(t, "Write of a byte too many", d.Write(b, rows("xy")+"z"), api.ErrLong)
		wants(t, "Write of a sector too many", d.Write(b, rows("xyz")), api.ErrLong)
		wants(t, "Write of bytes 0", d.Write(b, rows("\x00\x00\x00")), api.ErrLong)
	}
	// What was refused changed nothing, and is not pending.
	reads(t, d, 0, "a")
	reads(t, d, 1, rows("bc"))
	if d.Pending() != 2 {
		t.Error(d.Pending())
	}
	d.Crash([]uint64{3, 1, 3, 3})
	reads(t, d, 0, "a")
	reads(t, d, 1, rows("b"))
}

func TestNoObject(t *testing.T) {
	for name, d := range none() {
		wants(t, name+": Write", d.Write(0, "a"), api.ErrNil)
		wants(t, name+": Write to -1", d.Write(-1, "a"), api.ErrNil)
		wants(t, name+": Write of much", d.Write(0, rows("ab")), api.ErrNil)
		wants(t, name+": Write of nothing", d.Write(0, ""), api.ErrNil)
		for _, b := range []int{0, 1, -1} {
			if s, e := d.Read(b); s != "" || e != api.ErrNil {
				t.Errorf("%s: Read(%d): %s, %v", name, b, show(s), e)
			}
		}
		wants(t, name+": Sync", d.Sync(), api.ErrNil)
		d.Crash(nil)
		d.Crash([]uint64{1, math.MaxUint64})
		if d.Pending() != 0 || d.Blocks() != 0 || d.Size() != 0 || d.Copy() != nil {
			t.Errorf("%s: %d pending, %d of %d bytes, %v", name, d.Pending(), d.Blocks(), d.Size(), d.Copy())
		}
	}
}

// P5.3

func TestSync(t *testing.T) {
	d := made(t, 3, 2)
	wants(t, "Sync of nothing", d.Sync(), api.OK)
	wants(t, "Write", d.Write(0, "a"), api.OK)
	wants(t, "Write", d.Write(2, rows("xy")), api.OK)
	wants(t, "Write", d.Write(2, "z"), api.OK)
	wants(t, "Sync", d.Sync(), api.OK)
	for range 2 {
		if d.Pending() != 0 {
			t.Error(d.Pending())
		}
		reads(t, d, 0, "a")
		reads(t, d, 1, "")
		reads(t, d, 2, "z")
		d.Crash(nil)
	}
	wants(t, "Write", d.Write(2, ""), api.OK)
	wants(t, "Sync", d.Sync(), api.OK)
	wants(t, "Sync again", d.Sync(), api.OK)
	d.Crash(nil)
	reads(t, d, 0, "a")
	reads(t, d, 2, "")
}

func TestPending(t *testing.T) {
	d := made(t, 2, 1)
	for i, s := range []string{"a", "a", "", "a", rows("x")} {
		wants(t, "Write", d.Write(i%2, s), api.OK)
		if _, e := d.Read(0); e != api.OK || d.Pending() != i+1 {
			t.Errorf("after %d writes: %d", i+1, d.Pending())
		}
	}
	wants(t, "Sync", d.Sync(), api.OK)
	if d.Pending() != 0 {
		t.Error("after Sync:", d.Pending())
	}
	wants(t, "Write", d.Write(0, "b"), api.OK)
	if d.Pending() != 1 {
		t.Error("after Sync and a write:", d.Pending())
	}
	d.Crash([]uint64{1})
	if d.Pending() != 0 {
		t.Error("after Crash:", d.Pending())
	}
	for range 3000 {
		wants(t, "Write", d.Write(0, "c"), api.OK)
	}
	if d.Pending() != 3000 {
		t.Error("after many writes:", d.Pending())
	}
}

// P5.4

func TestCrashKeepsNothingElse(t *testing.T) {
	for name, keep := range map[string][]uint64{"nil": nil, "none": {}, "zeros": {0, 0, 0, 0, 0}, "other bits": {1 << 2, ^uint64(3)}} {
		d := made(t, 2, 2)
		wants(t, name, d.Write(0, rows("ab")), api.OK)
		wants(t, name, d.Sync(), api.OK)
		wants(t, name, d.Write(0, rows("cd")), api.OK)
		wants(t, name, d.Write(1, "e"), api.OK)
		d.Crash(keep)
		reads(t, d, 0, rows("ab"))
		reads(t, d, 1, "")
	}
}

func TestCrashKeepsSectors(t *testing.T) {
	for _, c := range []struct {
		keep uint64
		want string
	}{
		{0, rows("pqrs")}, {1, rows("aqrs")}, {2, rows("pbrs")}, {4, rows("pqcs")}, {8, rows("pqr\x00")}, {5, rows("aqcs")},
		{15, rows("abc")}, {16, rows("pqrs")}, {math.MaxUint64, rows("abc")}, {1<<63 | 1<<4 | 3, rows("abrs")},
	} {
		d := made(t, 3, 4)
		wants(t, "Write", d.Write(1, rows("pqrs")), api.OK)
		wants(t, "Sync", d.Sync(), api.OK)
		wants(t, "Write", d.Write(1, rows("abc")), api.OK)
		d.Crash([]uint64{c.keep})
		reads(t, d, 0, "")
		reads(t, d, 1, c.want)
		reads(t, d, 2, "")
		// What was kept is durable.
		d.Crash([]uint64{math.MaxUint64})
		reads(t, d, 1, c.want)
	}
}

func TestCrashKeepsThePadding(t *testing.T) {
	d := made(t, 1, 3)
	wants(t, "Write", d.Write(0, rows("xyz")), api.OK)
	wants(t, "Sync", d.Sync(), api.OK)
	wants(t, "Write", d.Write(0, rows("a")+"b"), api.OK)
	d.Crash([]uint64{2})
	reads(t, d, 0, rows("x")+padded("b", 64)+rows("z"))
	wants(t, "Write", d.Write(0, ""), api.OK)
	d.Crash([]uint64{1})
	reads(t, d, 0, rows("\x00")+padded("b", 64)+rows("z"))
	wants(t, "Write", d.Write(0, ""), api.OK)
	d.Crash([]uint64{7})
	reads(t, d, 0, "")
}

func TestCrashTakesWritesInOrder(t *testing.T) {
	for _, c := range []struct {
		keep []uint64
		a, b string
	}{
		{[]uint64{3, 3, 3, 3}, rows("ef"), rows("gh")},
		{[]uint64{3}, rows("ab"), ""},
		{[]uint64{3, 3}, rows("ab"), rows("cd")},
		{[]uint64{3, 0, 1}, rows("eb"), ""},
		{[]uint64{1, 0, 2}, rows("af"), ""},
		{[]uint64{0, 2, 2, 1}, rows("\x00f"), rows("gd")},
		{[]uint64{0, 0, 0, 2}, "", rows("\x00h")},
		{[]uint64{0, 3, 0, 0, 3, 3}, "", rows("cd")},
		{[]uint64{2, 1, 2, 1, 3, 3, 3}, rows("\x00f"), rows("g")},
	} {
		d := made(t, 2, 2)
		for i, s := range []string{"ab", "cd", "ef", "gh"} {
			wants(t, "Write", d.Write(i%2, rows(s)), api.OK)
		}
		before := slices.Clone(c.keep)
		d.Crash(c.keep)
		reads(t, d, 0, c.a)
		reads(t, d, 1, c.b)
		if !slices.Equal(c.keep, before) {
			t.Error(before, "became", c.keep)
		}
	}
}

func TestCrashOfManySectors(t *testing.T) {
	old, fresh := rows(strings.Repeat("o", 256)), rows(strings.Repeat("n", 256))
	for _, keep := range []uint64{0, 1, 2, 1 << 31, 1 << 32, 1 << 62, 1 << 63, 1<<63 | 1, 0x0123456789abcdef, math.MaxUint64} {
		for _, sectors := range []int{1, 63, 64, 65, 128, 129, 255, 256} {
			d := made(t, 1, sectors)
			wants(t, "Write", d.Write(0, old[:sectors*64]), api.OK)
			wants(t, "Sync", d.Sync(), api.OK)
			wants(t, "Write", d.Write(0, fresh[:sectors*64]), api.OK)
			d.Crash([]uint64{keep})
			s, _ := d.Read(0)
			for i := range sectors {
				want := "o"
				if keep&(1<<(i%64)) != 0 {
					want = "n"
				}
				if got := s[i*64 : i*64+64]; got != rows(want) {
					t.Fatalf("%x of %d: sector %d is %s", keep, sectors, i, show(got))
				}
			}
		}
	}
}

func TestWritesAfterACrashAreCountedAnew(t *testing.T) {
	d := made(t, 1, 2)
	wants(t, "Write", d.Write(0, rows("ab")), api.OK)
	wants(t, "Write", d.Write(0, rows("cd")), api.OK)
	d.Crash([]uint64{0, 1})
	wants(t, "Write", d.Write(0, rows("ef")), api.OK)
	d.Crash([]uint64{2, 1})
	reads(t, d, 0, rows("cf"))
	wants(t, "Write", d.Write(0, rows("gh")), api.OK)
	wants(t, "Sync", d.Sync(), api.OK)
	wants(t, "Write", d.Write(0, rows("ij")), api.OK)
	d.Crash([]uint64{1, 2})
	reads(t, d, 0, rows("ih"))
}

// P5.5

// deeds are what may be done to a device after it was copied.
func deeds() map[string]func(d *block.Dev) {
	return map[string]func(d *block.Dev){
		"nothing": func(d *block.Dev) {},
		"writes": func(d *block.Dev) {
			for b := range d.Blocks() {
				d.Write(b, rows("!!"))
				d.Write(b, "?")
			}
		},
		"sync":           func(d *block.Dev) { d.Sync() },
		"crash":          func(d *block.Dev) { d.Crash(nil) },
		"crash and keep": func(d *block.Dev) { d.Crash([]uint64{3, 3, 3, 3, 3}) },
		"write and sync": func(d *block.Dev) { d.Write(0, rows("!!")); d.Write(1, rows("!!")); d.Sync() },
		"write and keep": func(d *block.Dev) { d.Write(0, rows("!!")); d.Crash([]uint64{0, 0, 0, 3}) },
	}
}

func TestCopy(t *testing.T) {
	for name, deed := range deeds() {
		for _, onCopy := range []bool{false, true} {
			for _, end := range [][]uint64{nil, {1, 2, 0}, {0, 0, 3}, {3, 3, 1}} {
				d, p := made(t, 2, 2), newPlain(2, 2)
				write := func(b int, s string) { d.Write(b, s); p.write(b, s) }
				write(0, rows("ab"))
				write(1, "c")
				d.Sync()
				p.sync()
				write(0, "d")
				write(1, rows("ef"))
				write(0, rows("gh"))
				done, other := d, d.Copy()
				if onCopy {
					done, other = other, done
				}
				p.same(t, name, done)
				deed(done)
				p.same(t, name, other)
				// The other one's pending writes and durable bytes show in a crash.
				p.crash(end)
				other.Crash(end)
				p.same(t, name+" and a crash", other)
			}
		}
	}
}

func TestCopyOfACopy(t *testing.T) {
	d := made(t, 1, 1)
	d.Write(0, "a")
	c := d.Copy()
	c.Write(0, "b")
	cc := c.Copy()
	cc.Write(0, "c")
	d.Crash([]uint64{1, 1, 1})
	c.Crash([]uint64{1, 1, 1})
	cc.Crash([]uint64{1, 1, 1})
	reads(t, d, 0, "a")
	reads(t, c, 0, "b")
	reads(t, cc, 0, "c")
}

// TestPendingOfCopies: what is appended to one device's list of writes does not come into the other's, whatever room the list has.
func TestPendingOfCopies(t *testing.T) {
	for size := range 20 {
		d := made(t, 1, 1)
		for range size {
			d.Write(0, "o")
		}
		c := d.Copy()
		d.Write(0, "d")
		c.Write(0, "c")
		keep := make([]uint64, size+1)
		keep[size] = 1
		d.Crash(keep)
		c.Crash(keep)
		reads(t, d, 0, "d")
		reads(t, c, 0, "c")
	}
}

// P5.6

func TestSectorsAfterACrash(t *testing.T) {
	const blocks, sectors = 3, 3
	rng := rand.New(rand.NewSource(56))
	for range 2000 {
		d := made(t, blocks, sectors)
		var candidates [blocks][sectors][]string
		write := func() {
			b, s := rng.Intn(blocks), rows(strconv.Itoa(100+rng.Intn(900)))
			d.Write(b, s)
			for i := range sectors {
				candidates[b][i] = append(candidates[b][i], s[i*64:i*64+64])
			}
		}
		for range rng.Intn(4) {
			write()
		}
		d.Sync()
		for b := range blocks {
			s, _ := d.Read(b)
			for i := range sectors {
				candidates[b][i] = []string{s[i*64 : i*64+64]}
			}
		}
		writes := rng.Intn(6)
		keep := make([]uint64, rng.Intn(8))
		for range writes {
			write()
		}
		for i := range keep {
			keep[i] = uint64(rng.Intn(16))
		}
		d.Crash(keep)
		for b := range blocks {
			s, _ := d.Read(b)
			for i := range sectors {
				if got := s[i*64 : i*64+64]; !slices.Contains(candidates[b][i], got) {
					t.Fatalf("block %d, sector %d: %s, which is none of %d", b, i, show(got), len(candidates[b][i]))
				}
			}
		}
	}
}

func TestCrashAfterSync(t *testing.T) {
	for _, keep := range [][]uint64{nil, {}, {0}, {3, 3, 3}, {math.MaxUint64, 1}} {
		d := made(t, 2, 2)
		d.Write(0, rows("ab"))
		d.Crash([]uint64{1})
		d.Write(0, rows("cd"))
		d.Write(1, "e")
		d.Sync()
		d.Crash(keep)
		reads(t, d, 0, rows("cd"))
		reads(t, d, 1, "e")
		d.Crash(keep)
		reads(t, d, 0, rows("cd"))
		reads(t, d, 1, "e")
	}
}

func TestBlocksAreApart(t *testing.T) {
	const blocks = 5
	for b := range blocks {
		d, p := made(t, blocks, 2), newPlain(blocks, 2)
		for other := range blocks {
			s := rows(strconv.Itoa(10 + other))
			d.Write(other, s)
			p.write(other, s)
		}
		d.Sync()
		p.sync()
		for _, s := range []string{rows("xy"), rows("x"), "x", ""} {
			d.Write(b, s)
			p.write(b, s)
			p.same(t, "a write", d)
		}
		keep := []uint64{3, 1, 2, 1}
		d.Crash(keep)
		p.crash(keep)
		p.same(t, "a crash", d)
		d.Write(b, rows("zz"))
		p.write(b, rows("zz"))
		d.Sync()
		p.sync()
		d.Crash(nil)
		p.crash(nil)
		p.same(t, "a sync", d)
	}
}

// TestAgainstPlain: any calls, one after the other, held against the chapter's definitions.
func TestAgainstPlain(t *testing.T) {
	rng := rand.New(rand.NewSource(57))
	for round := range 300 {
		blocks, sectors := 1+rng.Intn(4), []int{1, 2, 3, 64, 66, 130}[rng.Intn(6)]
		d, p := made(t, blocks, sectors), newPlain(blocks, sectors)
		for step := range 40 {
			name := "round " + strconv.Itoa(round) + ", step " + strconv.Itoa(step)
			switch rng.Intn(8) {
			case 0:
				keep := make([]uint64, rng.Intn(2+len(p.pending)))
				for i := range keep {
					keep[i] = rng.Uint64()
				}
				d.Crash(keep)
				p.crash(keep)
			case 1:
				wants(t, name, d.Sync(), api.OK)
				p.sync()
			case 2:
				// What is done to the one that is left behind is not to be seen in the copy.
				left := d
				d = left.Copy()
				left.Write(rng.Intn(blocks), "left behind")
				left.Crash([]uint64{math.MaxUint64, math.MaxUint64})
			default:
				text := make([]byte, rng.Intn(sectors*64+1))
				rng.Read(text)
				b := rng.Intn(blocks)
				wants(t, name, d.Write(b, string(text)), api.OK)
				p.write(b, string(text))
			}
			p.same(t, name, d)
		}
	}
}

// P5.1 to P5.4, by the chapter's examples

func TestExamples(t *testing.T) {
	d := made(t, 2, 2)
	wants(t, "Write(0, a)", d.Write(0, "a"), api.OK)
	reads(t, d, 0, "a"+strings.Repeat("\x00", 127))
	d.Crash(nil)
	reads(t, d, 0, strings.Repeat("\x00", 128))
	wants(t, "Write(1, 128 bytes x)", d.Write(1, strings.Repeat("x", 128)), api.OK)
	d.Crash([]uint64{2})
	reads(t, d, 1, strings.Repeat("\x00", 64)+strings.Repeat("x", 64))
	wants(t, "Write(2, a)", d.Write(2, "a"), api.ErrArg)
	wants(t, "Write(0, 129 bytes)", d.Write(0, strings.Repeat("a", 129)), api.ErrLong)
	_, e := block.New(0, 1)
	wants(t, "New(0, 1)", e, api.ErrArg)
}

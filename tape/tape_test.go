package tape_test

import (
	"math"
	"math/rand"
	"strconv"
	"strings"
	"testing"

	"lockkeeper/api"
	"lockkeeper/tape"
)

func wants(t *testing.T, name string, got, want api.Errno) {
	t.Helper()
	if got != want {
		t.Errorf("%s: %v, not %v", name, got, want)
	}
}

// stands checks the offsets of a tape, and its room.
func stands(t *testing.T, name string, p *tape.Tape, base, sure, end uint64, room int) {
	t.Helper()
	if p.Base() != base || p.Sure() != sure || p.End() != end || p.Room() != room {
		t.Errorf("%s: %s, not %s", name,
			numbers(p.Base(), p.Sure(), p.End(), uint64(p.Room())), numbers(base, sure, end, uint64(room)))
	}
}

// reads checks all bytes of a tape.
func reads(t *testing.T, name string, p *tape.Tape, want string) {
	t.Helper()
	if got, e := p.Read(p.Base(), p.End()); got != want || e != api.OK {
		t.Errorf("%s: %q, %v, not %q", name, got, e, want)
	}
}

func numbers(l ...uint64) string {
	var all []string
	for _, n := range l {
		all = append(all, strconv.FormatUint(n, 10))
	}
	return strings.Join(all, " ")
}

// none returns what is no object.
func none() map[string]*tape.Tape { return map[string]*tape.Tape{"nil": nil, "zero": {}} }

// plain is a tape as the chapter's Terms define it, whose dropped bytes are still there.
type plain struct {
	all              string
	room, base, sure int
}

func (p *plain) end() int { return len(p.all) }

func (p *plain) append(s string) api.Errno {
	if p.end()-p.base+len(s) > p.room {
		return api.ErrFull
	}
	p.all += s
	return api.OK
}

func (p *plain) force() { p.sure = p.end() }

func (p *plain) read(from, to uint64) (string, api.Errno) {
	if from < uint64(p.base) || from > to || to > uint64(p.end()) {
		return "", api.ErrArg
	}
	return p.all[from:to], api.OK
}

func (p *plain) drop(to uint64) api.Errno {
	if to < uint64(p.base) || to > uint64(p.sure) {
		return api.ErrArg
	}
	p.base = int(to)
	return api.OK
}

func (p *plain) cut(to uint64) api.Errno {
	if to < uint64(p.base) || to > uint64(p.end()) {
		return api.ErrArg
	}
	p.all = p.all[:to]
	if p.sure > p.end() {
		p.sure = p.end()
	}
	return api.OK
}

func (p *plain) crash(keep int) {
	kept := p.sure
	for i := 0; i < keep && kept < p.end(); i++ {
		kept++
	}
	p.all, p.sure = p.all[:kept], kept
}

// same checks all that can be seen of a tape but what pieces of its bytes say.
func (p *plain) same(t *testing.T, name string, got *tape.Tape) {
	t.Helper()
	stands(t, name, got, uint64(p.base), uint64(p.sure), uint64(p.end()), p.room-(p.end()-p.base))
	reads(t, name, got, p.all[p.base:])
	if t.Failed() {
		t.FailNow()
	}
}

// sameReads checks what is read from and to every offset, also those that are not valid.
func (p *plain) sameReads(t *testing.T, name string, got *tape.Tape) {
	t.Helper()
	for _, from := range p.offsets() {
		for _, to := range p.offsets() {
			s, e := got.Read(from, to)
			if want, f := p.read(from, to); s != want || e != f {
				t.Fatalf("%s: from %d to %d: %q, %v, not %q, %v", name, from, to, s, e, want, f)
			}
		}
	}
}

// offsets are those of all bytes, whether still there or not, and some behind them.
func (p *plain) offsets() []uint64 {
	end := uint64(p.end())
	all := []uint64{end + 1, end + 2, 1 << 31, 1 << 32, 1<<32 + end, 1 << 63, math.MaxUint64 - 1, math.MaxUint64}
	for i := range end + 1 {
		all = append(all, i)
	}
	return all
}

// pair is a tape and what it must be like.
type pair struct {
	name string
	p    plain
	made func() *tape.Tape
}

// tapes returns a tape for all offsets that a tape of up to so many bytes may have.
func tapes(bytes int) []pair {
	const text = "abcdefghijklmnopqrstuvwxyz"
	var all []pair
	for end := range bytes + 1 {
		for sure := range end + 1 {
			for base := range sure + 1 {
				room := end + 2
				all = append(all, pair{
					name: numbers(uint64(base), uint64(sure), uint64(end)),
					p:    plain{all: text[:end], room: room, base: base, sure: sure},
					made: func() *tape.Tape {
						p := tape.New(room)
						p.Append(text[:sure])
						p.Force()
						p.Append(text[sure:end])
						p.Drop(uint64(base))
						return p
					},
				})
			}
		}
	}
	return all
}

// P6.1

func TestNew(t *testing.T) {
	for _, room := range []int{0, 1, 2, 5, 63, 64, 65, 1000, 1 << 20, math.MaxInt32 - 1, math.MaxInt32, math.MaxInt - 1, math.MaxInt} {
		name := strconv.Itoa(room)
		p := tape.New(room)
		if p == nil {
			t.Fatal(name, "is none")
		}
		stands(t, name, p, 0, 0, 0, room)
		reads(t, name, p, "")
		p.Crash(1)
		wants(t, name+": Force", p.Force(), api.OK)
		wants(t, name+": Append of nothing", p.Append(""), api.OK)
		stands(t, name, p, 0, 0, 0, room)
	}
}

func TestNewOfNegativeRoom(t *testing.T) {
	for _, room := range []int{-1, -2, -5, math.MinInt32, math.MinInt + 1, math.MinInt} {
		name := strconv.Itoa(room)
		p := tape.New(room)
		if p == nil {
			t.Fatal(name, "is none")
		}
		stands(t, name, p, 0, 0, 0, 0)
		wants(t, name+": Append", p.Append("a"), api.ErrFull)
		wants(t, name+": Append of nothing", p.Append(""), api.OK)
		stands(t, name, p, 0, 0, 0, 0)
	}
}

// TestNoRoom: a tape without room is an object all the same.
func TestNoRoom(t *testing.T) {
	p := tape.New(0)
	for _, c := range []*tape.Tape{p, p.Copy(), p.Copy().Copy()} {
		if c == nil {
			t.Fatal("the copy is none")
		}
		wants(t, "Append of nothing", c.Append(""), api.OK)
		wants(t, "Append", c.Append("a"), api.ErrFull)
		wants(t, "Force", c.Force(), api.OK)
		wants(t, "Drop(0)", c.Drop(0), api.OK)
		wants(t, "Drop(1)", c.Drop(1), api.ErrArg)
		wants(t, "Cut(0)", c.Cut(0), api.OK)
		wants(t, "Cut(1)", c.Cut(1), api.ErrArg)
		reads(t, "all", c, "")
		if s, e := c.Read(0, 1); s != "" || e != api.ErrArg {
			t.Errorf("Read(0, 1): %q, %v", s, e)
		}
		c.Crash(1)
		stands(t, "no room", c, 0, 0, 0, 0)
	}
}

func TestOffsetsAndRoom(t *testing.T) {
	p := tape.New(10)
	wants(t, "Append", p.Append("abcdef"), api.OK)
	stands(t, "Append", p, 0, 0, 6, 4)
	wants(t, "Force", p.Force(), api.OK)
	stands(t, "Force", p, 0, 6, 6, 4)
	wants(t, "Drop", p.Drop(4), api.OK)
	stands(t, "Drop", p, 4, 6, 6, 8)
	wants(t, "Append", p.Append("ghi"), api.OK)
	stands(t, "Append", p, 4, 6, 9, 5)
	wants(t, "Cut", p.Cut(8), api.OK)
	stands(t, "Cut", p, 4, 6, 8, 6)
	p.Crash(1)
	stands(t, "Crash", p, 4, 7, 7, 7)
	wants(t, "Cut", p.Cut(5), api.OK)
	stands(t, "Cut", p, 4, 5, 5, 9)
	wants(t, "Drop", p.Drop(5), api.OK)
	stands(t, "Drop", p, 5, 5, 5, 10)
}

// TestGreatOffsets: offsets go on, whatever was dropped.
func TestGreatOffsets(t *testing.T) {
	const part, rounds = "0123456789abcdef", 10000
	p := tape.New(len(part) + 1)
	for i := range uint64(rounds) {
		from := i * uint64(len(part))
		to := from + uint64(len(part))
		wants(t, "Append", p.Append(part), api.OK)
		wants(t, "Force", p.Force(), api.OK)
		stands(t, "a round", p, from, to, to, 1)
		reads(t, "a round", p, part)
		wants(t, "Drop", p.Drop(to), api.OK)
		if t.Failed() {
			t.FailNow()
		}
	}
	stands(t, "all rounds", p, 160000, 160000, 160000, len(part)+1)
}

func TestTapesAreApart(t *testing.T) {
	a, b := tape.New(5), tape.New(5)
	wants(t, "Append", a.Append("abc"), api.OK)
	wants(t, "Force", a.Force(), api.OK)
	stands(t, "the other one", b, 0, 0, 0, 5)
	wants(t, "Append", b.Append("xyz"), api.OK)
	reads(t, "the one", a, "abc")
	reads(t, "the other one", b, "xyz")
	stands(t, "the other one", b, 0, 0, 3, 2)
}

func TestNoObject(t *testing.T) {
	for name, p := range none() {
		for _, s := range []string{"", "a", strings.Repeat("a", 1000)} {
			wants(t, name+": Append", p.Append(s), api.ErrNil)
		}
		wants(t, name+": Force", p.Force(), api.ErrNil)
		for _, n := range []uint64{0, 1, 2, math.MaxUint64} {
			wants(t, name+": Drop", p.Drop(n), api.ErrNil)
			wants(t, name+": Cut", p.Cut(n), api.ErrNil)
			for _, m := range []uint64{0, 1, math.MaxUint64} {
				if s, e := p.Read(n, m); s != "" || e != api.ErrNil {
					t.Errorf("%s: Read(%d, %d): %q, %v", name, n, m, s, e)
				}
			}
		}
		for _, keep := range []int{0, 1, -1, math.MaxInt, math.MinInt} {
			p.Crash(keep)
		}
		stands(t, name, p, 0, 0, 0, 0)
		if p.Copy() != nil {
			t.Error(name, "has a copy")
		}
		// It does not become an object by what was done to it.
		wants(t, name+": Append at last", p.Append(""), api.ErrNil)
	}
}

// P6.2

func TestAppend(t *testing.T) {
	p, q := tape.New(1000), plain{room: 1000}
	for _, s := range []string{"a", "", "\x00", "\xff\x80\x00", "bcd", strings.Repeat("x", 300), "", "e", strings.Repeat("yz", 200)} {
		wants(t, "Append", p.Append(s), api.OK)
		q.append(s)
		q.same(t, "after "+strconv.Itoa(len(s))+" bytes", p)
	}
}

func TestEachByteIsRead(t *testing.T) {
	var all [256]byte
	for i := range all {
		all[i] = byte(i)
	}
	p := tape.New(256)
	wants(t, "Append", p.Append(string(all[:])), api.OK)
	reads(t, "not durable", p, string(all[:]))
	wants(t, "Force", p.Force(), api.OK)
	p.Crash(0)
	reads(t, "durable", p, string(all[:]))
	for i := range uint64(256) {
		if s, e := p.Read(i, i+1); s != string(all[i:i+1]) || e != api.OK {
			t.Errorf("Read(%d): %q, %v", i, s, e)
		}
	}
}

// TestAppendOfMuch: a tape is full exactly when there are as many bytes as there is room for, whether they are durable or not.
func TestAppendOfMuch(t *testing.T) {
	for _, c := range tapes(4) {
		for size := range 8 {
			p, q := c.made(), c.p
			name := c.name + " and " + strconv.Itoa(size)
			s := strings.Repeat("!", size)
			wants(t, name, p.Append(s), q.append(s))
			q.same(t, name, p)
			q.sameReads(t, name, p)
		}
	}
	for _, room := range []int{0, 1, 2, 5, 255, 4096} {
		name := strconv.Itoa(room)
		p := tape.New(room)
		full := strings.Repeat("f", room)
		wants(t, name+": Append of a byte too many", p.Append(full+"f"), api.ErrFull)
		stands(t, name, p, 0, 0, 0, room)
		wants(t, name+": Append", p.Append(full), api.OK)
		stands(t, name, p, 0, 0, uint64(room), 0)
		wants(t, name+": Append to what is full", p.Append("f"), api.ErrFull)
		wants(t, name+": Append of nothing to what is full", p.Append(""), api.OK)
		reads(t, name, p, full)
	}
}

// TestAppendOfTooMuchIsTakenInNoPart: also where a part of it would have room.
func TestAppendOfTooMuchIsTakenInNoPart(t *testing.T) {
	p := tape.New(5)
	wants(t, "Append", p.Append("abc"), api.OK)
	wants(t, "Append of too much", p.Append("def"), api.ErrFull)
	stands(t, "after too much", p, 0, 0, 3, 2)
	wants(t, "Append of what there is room for", p.Append("gh"), api.OK)
	reads(t, "full", p, "abcgh")
	wants(t, "Append to what is full", p.Append("i"), api.ErrFull)
	p.Crash(5)
	reads(t, "after a power loss", p, "abcgh")
}

func TestForce(t *testing.T) {
	p := tape.New(10)
	wants(t, "Force of nothing", p.Force(), api.OK)
	stands(t, "nothing", p, 0, 0, 0, 10)
	for i, s := range []string{"a", "bc", "", "def"} {
		sure := p.Sure()
		wants(t, "Append", p.Append(s), api.OK)
		if p.Sure() != sure {
			t.Errorf("Append %d: Sure is %d, and was %d", i, p.Sure(), sure)
		}
		wants(t, "Force", p.Force(), api.OK)
		wants(t, "Force again", p.Force(), api.OK)
		if p.Sure() != p.End() {
			t.Errorf("Force %d: Sure is %d, not %d", i, p.Sure(), p.End())
		}
	}
	p.Crash(0)
	reads(t, "forced", p, "abcdef")
	for _, c := range tapes(4) {
		p, q := c.made(), c.p
		wants(t, c.name, p.Force(), api.OK)
		q.force()
		q.same(t, c.name, p)
	}
}

func TestRead(t *testing.T) {
	for _, c := range tapes(6) {
		p, q := c.made(), c.p
		q.same(t, c.name, p)
		q.sameReads(t, c.name, p)
		// What was read, or refused, changed nothing.
		q.same(t, c.name+", read", p)
	}
}

// P6.3

func TestDrop(t *testing.T) {
	for _, c := range tapes(5) {
		for _, to := range c.p.offsets() {
			p, q := c.made(), c.p
			name := c.name + " dropped to " + numbers(to)
			wants(t, name, p.Drop(to), q.drop(to))
			q.same(t, name, p)
			q.sameReads(t, name, p)
			// What was dropped stays so, and its room is there again.
			p.Crash(0)
			q.crash(0)
			q.same(t, name+" and a crash", p)
			s := strings.Repeat("!", q.room-(q.end()-q.base))
			wants(t, name+" and filled", p.Append(s), q.append(s))
			q.same(t, name+" and filled", p)
			q.sameReads(t, name+" and filled", p)
		}
	}
}

func TestDropKeepsWhatIsNotDurable(t *testing.T) {
	p := tape.New(6)
	wants(t, "Append", p.Append("abc"), api.OK)
	wants(t, "Force", p.Force(), api.OK)
	wants(t, "Append", p.Append("def"), api.OK)
	wants(t, "Drop behind the durable offset", p.Drop(4), api.ErrArg)
	wants(t, "Drop to the end", p.Drop(6), api.ErrArg)
	stands(t, "refused", p, 0, 3, 6, 0)
	wants(t, "Drop to the durable offset", p.Drop(3), api.OK)
	stands(t, "dropped", p, 3, 3, 6, 3)
	reads(t, "dropped", p, "def")
	wants(t, "Drop to the base", p.Drop(3), api.OK)
	wants(t, "Drop ahead of the base", p.Drop(2), api.ErrArg)
	p.Crash(2)
	stands(t, "a crash", p, 3, 5, 5, 4)
	reads(t, "a crash", p, "de")
}

func TestCut(t *testing.T) {
	for _, c := range tapes(5) {
		for _, to := range c.p.offsets() {
			for _, keep := range []int{0, 1, 100} {
				p, q := c.made(), c.p
				name := c.name + " cut to " + numbers(to)
				wants(t, name, p.Cut(to), q.cut(to))
				q.same(t, name, p)
				q.sameReads(t, name, p)
				wants(t, name+" and one appended", p.Append("!"), q.append("!"))
				q.same(t, name+" and one appended", p)
				// What was cut does not come back: behind the end there is what was appended, or nothing.
				p.Crash(keep)
				q.crash(keep)
				q.same(t, name+" and a crash", p)
				q.sameReads(t, name+" and a crash", p)
			}
		}
	}
}

func TestCutForGood(t *testing.T) {
	for _, keep := range []int{-1, 0, 1, 6, math.MaxInt} {
		p := tape.New(6)
		wants(t, "Append", p.Append("abcdef"), api.OK)
		wants(t, "Force", p.Force(), api.OK)
		wants(t, "Cut", p.Cut(2), api.OK)
		p.Crash(keep)
		stands(t, "cut", p, 0, 2, 2, 4)
		reads(t, "cut", p, "ab")
		wants(t, "Append", p.Append("x"), api.OK)
		stands(t, "appended", p, 0, 2, 3, 3)
		p.Crash(0)
		reads(t, "not forced", p, "ab")
		wants(t, "Append", p.Append("wxyz"), api.OK)
		wants(t, "Force", p.Force(), api.OK)
		p.Crash(keep)
		reads(t, "forced", p, "abwxyz")
	}
}

// TestCutMakesNothingDurable: what is left behind the durable offset may still be lost.
func TestCutMakesNothingDurable(t *testing.T) {
	p := tape.New(6)
	wants(t, "Append", p.Append("ab"), api.OK)
	wants(t, "Force", p.Force(), api.OK)
	wants(t, "Append", p.Append("cdef"), api.OK)
	wants(t, "Cut", p.Cut(4), api.OK)
	stands(t, "cut", p, 0, 2, 4, 2)
	wants(t, "Cut to the end", p.Cut(4), api.OK)
	stands(t, "cut again", p, 0, 2, 4, 2)
	p.Crash(1)
	reads(t, "a crash", p, "abc")
	wants(t, "Drop", p.Drop(1), api.OK)
	wants(t, "Cut ahead of the base", p.Cut(0), api.ErrArg)
	wants(t, "Cut behind the end", p.Cut(4), api.ErrArg)
	reads(t, "refused", p, "bc")
	wants(t, "Cut to the base", p.Cut(1), api.OK)
	stands(t, "cut to the base", p, 1, 1, 1, 6)
}

// P6.4

func TestCrash(t *testing.T) {
	for _, c := range tapes(6) {
		for _, keep := range []int{math.MinInt, math.MinInt32, -2, -1, 0, 1, 2, 3, 4, 5, 6, 7, 8, math.MaxInt32, math.MaxInt - 1, math.MaxInt} {
			name := c.name + " keeps " + strconv.Itoa(keep)
			p, q := c.made(), c.p
			p.Crash(keep)
			q.crash(keep)
			q.same(t, name, p)
			q.sameReads(t, name, p)
			// What was kept is durable.
			for _, again := range []int{0, -1, 1} {
				p.Crash(again)
				q.same(t, name+", and again", p)
			}
			wants(t, name, p.Append("!?"), q.append("!?"))
			q.same(t, name+", and appended", p)
			p.Crash(1)
			q.crash(1)
			q.same(t, name+", and appended, and a crash", p)
		}
	}
}

func TestCrashKeepsTheFirstBytes(t *testing.T) {
	for keep, want := range map[int]string{-1: "cd", 0: "cd", 1: "cde", 2: "cdef", 3: "cdefg", 4: "cdefgh", 5: "cdefgh", math.MaxInt: "cdefgh", math.MinInt: "cd"} {
		p := tape.New(8)
		wants(t, "Append", p.Append("abcd"), api.OK)
		wants(t, "Force", p.Force(), api.OK)
		wants(t, "Drop", p.Drop(2), api.OK)
		wants(t, "Append", p.Append("ef"), api.OK)
		wants(t, "Append", p.Append("gh"), api.OK)
		p.Crash(keep)
		end := 2 + uint64(len(want))
		stands(t, strconv.Itoa(keep), p, 2, end, end, 8-len(want))
		reads(t, strconv.Itoa(keep), p, want)
	}
}

// P6.5

// deeds are what may be done to a tape after it was copied.
func deeds() map[string]func(p *tape.Tape) {
	return map[string]func(p *tape.Tape){
		"nothing":          func(p *tape.Tape) {},
		"append":           func(p *tape.Tape) { p.Append("!") },
		"append much":      func(p *tape.Tape) { p.Append(strings.Repeat("!", p.Room())) },
		"force":            func(p *tape.Tape) { p.Force() },
		"drop":             func(p *tape.Tape) { p.Drop(p.Sure()) },
		"drop and append":  func(p *tape.Tape) { p.Drop(p.Sure()); p.Append("!!!") },
		"cut":              func(p *tape.Tape) { p.Cut(p.Base()) },
		"cut and append":   func(p *tape.Tape) { p.Cut(p.Base()); p.Append("!!!!") },
		"cut one, append":  func(p *tape.Tape) { p.Cut(p.End() - 1); p.Append("!") },
		"crash":            func(p *tape.Tape) { p.Crash(0) },
		"crash and append": func(p *tape.Tape) { p.Crash(1); p.Append("!!!!"); p.Force() },
	}
}

func TestCopy(t *testing.T) {
	for name, deed := range deeds() {
		for _, onCopy := range []bool{false, true} {
			for _, c := range tapes(5) {
				if c.p.end() == c.p.base {
					continue
				}
				name := name + " on " + c.name
				p, q := c.made(), c.p
				done, other := p, p.Copy()
				if onCopy {
					done, other = other, done
				}
				q.same(t, name, done)
				deed(done)
				q.same(t, name, other)
				q.sameReads(t, name, other)
				// The other one goes on as if nothing had been done.
				wants(t, name, other.Append("?"), q.append("?"))
				deed(done)
				q.same(t, name, other)
				other.Crash(1)
				q.crash(1)
				q.same(t, name+" and a crash", other)
			}
		}
	}
}

func TestCopyOfACopy(t *testing.T) {
	p := tape.New(4)
	p.Append("ab")
	p.Force()
	c := p.Copy()
	c.Append("c")
	cc := c.Copy()
	cc.Drop(1)
	cc.Append("de")
	c.Append("x")
	p.Append("y")
	reads(t, "the first", p, "aby")
	reads(t, "its copy", c, "abcx")
	reads(t, "the copy's copy", cc, "bcde")
	stands(t, "the first", p, 0, 2, 3, 1)
	stands(t, "its copy", c, 0, 2, 4, 0)
	stands(t, "the copy's copy", cc, 1, 2, 5, 0)
}

// TestBytesOfCopies: what is appended to one tape does not come into the other, whatever room its memory has.
func TestBytesOfCopies(t *testing.T) {
	for size := range 100 {
		name := strconv.Itoa(size)
		p := tape.New(200)
		for range size {
			p.Append("o")
		}
		c := p.Copy()
		p.Append("p")
		c.Append("c")
		before := strings.Repeat("o", size)
		reads(t, name, p, before+"p")
		reads(t, name, c, before+"c")
	}
}

// P6.6

// TestDurableBytesSurvive: of any tape, all bytes before the durable offset are there after a power loss, and of those behind it the first ones.
func TestDurableBytesSurvive(t *testing.T) {
	rng := rand.New(rand.NewSource(66))
	for round := range 2000 {
		p := tape.New(40)
		for range rng.Intn(8) {
			act(rng, p)
			if p.Base() > p.Sure() || p.Sure() > p.End() || p.End()-p.Base() > 40 || p.Room() != 40-int(p.End()-p.Base()) {
				t.Fatalf("round %d: %s", round, numbers(p.Base(), p.Sure(), p.End(), uint64(p.Room())))
			}
		}
		base, sure, end := p.Base(), p.Sure(), p.End()
		durable, _ := p.Read(base, sure)
		all, _ := p.Read(base, end)
		p.Crash(rng.Intn(12) - 2)
		got, e := p.Read(base, p.End())
		if p.Base() != base || e != api.OK || !strings.HasPrefix(got, durable) || !strings.HasPrefix(all, got) || p.Sure() != p.End() {
			t.Fatalf("round %d: %q, %v, of %q and all of %q", round, got, e, durable, all)
		}
	}
}

// act makes some call, whose numbers are mostly valid.
func act(rng *rand.Rand, p *tape.Tape) {
	near := func() uint64 { return p.Base() + uint64(rng.Intn(int(p.End()-p.Base())+2)) }
	switch rng.Intn(7) {
	case 0:
		p.Force()
	case 1:
		p.Drop(near())
	case 2:
		p.Cut(near())
	case 3:
		p.Crash(rng.Intn(8) - 1)
	default:
		p.Append(someText(rng, 16))
	}
}

func someText(rng *rand.Rand, most int) string {
	text := make([]byte, rng.Intn(most+1))
	rng.Read(text)
	return string(text)
}

// TestAgainstPlain: any calls, one after the other, held against the chapter's definitions.
func TestAgainstPlain(t *testing.T) {
	rng := rand.New(rand.NewSource(67))
	for round := range 1000 {
		room := []int{-1, 0, 1, 5, 20, 64, 300}[rng.Intn(7)]
		p, q := tape.New(room), plain{room: max(room, 0)}
		for step := range 60 {
			name := "round " + strconv.Itoa(round) + ", step " + strconv.Itoa(step)
			near := func() uint64 { return uint64(q.base + rng.Intn(q.end()-q.base+3) - 1) }
			switch rng.Intn(10) {
			case 0:
				keep := rng.Intn(2+q.end()-q.sure) - 1
				p.Crash(keep)
				q.crash(keep)
			case 1:
				wants(t, name, p.Force(), api.OK)
				q.force()
			case 2:
				to := near()
				wants(t, name, p.Drop(to), q.drop(to))
			case 3:
				to := near()
				wants(t, name, p.Cut(to), q.cut(to))
			case 4:
				// What is done to the one that is left behind is not to be seen in the copy.
				left := p
				p = left.Copy()
				left.Append("!")
				left.Cut(left.Base())
				left.Append(strings.Repeat("!", left.Room()))
			default:
				s := someText(rng, q.room/3+1)
				wants(t, name, p.Append(s), q.append(s))
			}
			q.same(t, name, p)
			from, to := near(), near()
			s, e := p.Read(from, to)
			if want, f := q.read(from, to); s != want || e != f {
				t.Fatalf("%s: from %d to %d: %q, %v, not %q, %v", name, from, to, s, e, want, f)
			}
		}
	}
}

// P6.1 to P6.4, by the chapter's examples

func TestExamples(t *testing.T) {
	p := tape.New(5)
	wants(t, "Append(abc)", p.Append("abc"), api.OK)
	wants(t, "Append(def)", p.Append("def"), api.ErrFull)
	wants(t, "Append(de)", p.Append("de"), api.OK)
	if p.Room() != 0 {
		t.Error("Room:", p.Room())
	}
	wants(t, "Force", p.Force(), api.OK)
	wants(t, "Drop(2)", p.Drop(2), api.OK)
	if p.Room() != 2 {
		t.Error("Room:", p.Room())
	}
	wants(t, "Append(fg)", p.Append("fg"), api.OK)
	if s, e := p.Read(2, 7); s != "cdefg" || e != api.OK {
		t.Errorf("Read(2, 7): %q, %v", s, e)
	}
	p.Crash(1)
	if p.End() != 6 {
		t.Error("End:", p.End())
	}
	if s, e := p.Read(2, 6); s != "cdef" || e != api.OK {
		t.Errorf("Read(2, 6): %q, %v", s, e)
	}
	wants(t, "Cut(4)", p.Cut(4), api.OK)
	if p.Sure() != 4 {
		t.Error("Sure:", p.Sure())
	}
	wants(t, "Drop(5)", p.Drop(5), api.ErrArg)
	if s, e := p.Read(1, 3); s != "" || e != api.ErrArg {
		t.Errorf("Read(1, 3): %q, %v", s, e)
	}
}

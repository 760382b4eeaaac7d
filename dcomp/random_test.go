package dcomp_test

import (
	"fmt"
	"math/rand"
	"testing"

	"lockkeeper/api"
	"lockkeeper/dcomp"
	"lockkeeper/letter"
)

// setting is options, and devices for them.
type setting struct {
	o            api.CoreOptions
	places, room int
}

func settings() []setting {
	return []setting{
		{small, 20, 200000},
		{api.CoreOptions{Frames: 400, Most: 40, Cell: 20, In: 3}, 30, 200000},
		{api.CoreOptions{Frames: 400, Most: 192, Cell: 20, In: 40}, 20, 3000},
		{api.CoreOptions{Frames: 12, Most: 8, Cell: 9, In: 1}, 30, 200000},
		{api.CoreOptions{Frames: 30, Most: 60, Cell: 16, In: 40}, 8, 900},
	}
}

// player sends messages at random to a component and to a plain one with devices of its own.
type player struct {
	*testing.T
	*rand.Rand
	setting
	c        *dcomp.Comp
	p        *plain
	d        disks
	lsn      uint64
	greatest uint64
	comment  string
}

func newPlayer(t *testing.T, s setting, seed int64) *player {
	t.Helper()
	r := &player{T: t, Rand: rand.New(rand.NewSource(seed)), setting: s, d: newDisks(s.o, s.places, s.room)}
	r.p = &plain{d: r.d.copy()}
	r.comment = fmt.Sprintf("%v, seed %d", s, seed)
	r.open()
	return r
}

func (r *player) open() {
	r.Helper()
	c, e := r.d.open(r.o)
	p, f := openPlain(r.p.d, r.o)
	if e != f || e != api.OK {
		r.Fatalf("%s: open: %v, not %v", r.comment, e, f)
	}
	r.c, r.p = c, p
	r.same("open")
}

// same holds what can be seen of both against each other.
func (r *player) same(name string) {
	r.Helper()
	if got, want := seen(r.c, r.c.Known()), r.p.seen(); got != want {
		r.Fatalf("%s, %s: %s, not %s", r.comment, name, got, want)
	}
}

// state is all that can be seen of the component.
func (r *player) state() string { return seen(r.c, r.c.Known()) + r.d.told() }

// say has both take a message, and returns the answer, one of Kind 0 if there is none.
func (r *player) say(s string) api.Letter {
	r.Helper()
	want := r.p.take(s)
	a, is := r.c.Take(s)
	got, e := letter.Get(a)
	if is != (e == api.OK) || !is && a != "" || is != (want.Kind != 0) || !letter.Same(got, want) {
		l, _ := letter.Get(s)
		r.Fatalf("%s: take %+v: %+v %v %v, not %+v", r.comment, l, got, is, e, want)
	}
	r.same("take")
	return got
}

// work has both do something beside messages.
func (r *player) work() {
	r.Helper()
	var is, are bool
	var e, f api.Errno
	kind := uint8(1 + r.Intn(7))
	switch {
	case !r.p.core.Up() && r.Intn(2) == 0:
		is, e = r.c.Boot()
		are, f = r.p.core.Boot()
	default:
		is, e = r.c.Work(kind)
		are, f = r.p.core.Work(kind)
	}
	if is != are || e != f {
		r.Fatalf("%s: work %d: %v %v, not %v %v", r.comment, kind, is, e, are, f)
	}
	r.same("work")
}

func (r *player) key() string {
	k := ""
	for range 1 + r.Intn(2) {
		k += string(rune('a' + r.Intn(6)))
	}
	return k
}

func (r *player) op() api.Op {
	op := api.Op{Lsn: 1 + uint64(r.Int63n(int64(r.lsn)+1)), Key: r.key()}
	if r.Intn(5) > 0 {
		r.lsn++
		op.Lsn = r.lsn
	}
	if op.Del = r.Intn(4) == 0; !op.Del {
		op.Value = fmt.Sprintf("%0*d", 1+r.Intn(r.o.Cell-2), r.Intn(10))
	}
	return op
}

func (r *player) span() api.Range {
	s := api.Range{From: r.key(), To: r.key(), End: true}
	if s.To <= s.From || r.Intn(3) == 0 {
		s.To, s.End = "", false
	}
	return s
}

// mark is a number about as great as those of the operations.
func (r *player) mark() uint64 { return uint64(r.Int63n(int64(r.lsn) + 3)) }

// around is a number, or seldom one beside it.
func (r *player) around(n uint64) uint64 {
	if r.Intn(12) == 0 {
		return n + uint64(r.Intn(3)) - min(n, 1)
	}
	return n
}

// letter is a message of the transaction component, most often of epochs that are known.
func (r *player) letter() api.Letter {
	l := api.Letter{Kind: uint8(2 + r.Intn(5)), Te: max(1, r.around(r.c.Known())), De: r.around(r.c.Epoch())}
	if r.Intn(12) == 0 {
		l.Kind = 1
	}
	switch l.Kind {
	case api.LtHello:
		l.De, l.A = 0, r.mark()
	case api.LtDo:
		l.Op = r.op()
	case api.LtGet:
		l.N, l.Op.Key = 1+r.mark(), r.key()
	case api.LtScan:
		l.N, l.R, l.A = 1+r.mark(), r.span(), uint64(1+r.Intn(8))
	case api.LtMarks:
		l.A, l.B = r.mark(), r.mark()/2
	case api.LtCheck:
		l.A = r.mark()
	}
	return l
}

// garbled is bytes of no message, or of one that only the data component sends.
func (r *player) garbled(s string) string {
	switch r.Intn(3) {
	case 0:
		return s[:r.Intn(len(s))]
	case 1:
		at := r.Intn(len(s))
		return s[:at] + string([]byte{s[at] ^ byte(1<<r.Intn(8))}) + s[at+1:]
	}
	return bytesOf(r.T, []api.Letter{welcome(1+r.mark(), 1), done(1+r.mark(), 1, 1), notFound(1, 1, 1), rows(1, 1, 1, true), oldest(1, 1, 1, 1)}[r.Intn(5)])
}

// crash is a power loss of both, in the same way, after which they are opened.
func (r *player) crash() {
	r.Helper()
	keep, bytes := []uint64{r.Uint64(), r.Uint64(), 0, r.Uint64()}[:r.Intn(5)], r.Intn(300)
	for _, d := range []disks{r.d, r.p.d} {
		d.pages.Crash(keep)
		d.heart.Crash(keep)
		d.log.Crash(bytes)
	}
	r.open()
}

func eachSetting(t *testing.T, steps int, test func(r *player)) {
	for _, s := range settings() {
		t.Run(fmt.Sprint(s), func(t *testing.T) {
			t.Parallel()
			for seed := range 3 {
				r := newPlayer(t, s, int64(seed))
				told := r.comment
				for i := range steps {
					r.comment = fmt.Sprintf("%s, step %d", told, i)
					test(r)
				}
			}
		})
	}
}

// P21.1, P21.2: messages and works at random are held against the plain component, and so are the devices.
func TestMessagesAtRandom(t *testing.T) {
	eachSetting(t, 600, func(r *player) {
		switch n := r.Intn(100); {
		case n < 40:
			r.work()
		case n < 42:
			was := r.state()
			if a := r.say(r.garbled(bytesOf(r.T, r.letter()))); a.Kind != 0 || r.state() != was {
				r.Fatalf("%s: an answer %v to what is no message", r.comment, a)
			}
		case n < 43:
			r.crash()
		default:
			r.say(bytesOf(r.T, r.letter()))
		}
		if r.Intn(20) == 0 && r.d.told() != r.p.d.told() {
			r.Fatalf("%s: the devices differ", r.comment)
		}
	})
}

// P21.3: a message that is taken a second time gets the same answer, and changes nothing.
func TestRepetition(t *testing.T) {
	eachSetting(t, 500, func(r *player) {
		if r.Intn(3) == 0 {
			r.work()
			return
		}
		l := r.letter()
		known := r.c.Known()
		first := r.say(bytesOf(r.T, l))
		if first.Kind == 0 || r.c.Known() != known {
			return
		}
		was := r.state()
		second := r.say(bytesOf(r.T, l))
		// Only as many frames as pages are enough in any case.
		isSame := letter.Same(first, second) || second.Kind == 0 && r.o.Frames < 400
		if !isSame || r.state() != was {
			r.Fatalf("%s: %+v: %+v, and then %+v", r.comment, l, first, second)
		}
	})
}

// P21.4: a message of an earlier epoch of the transaction component changes nothing, nor one of another epoch of the data component.
func TestEarlierEpochs(t *testing.T) {
	eachSetting(t, 500, func(r *player) {
		l := r.letter()
		if r.Intn(2) == 0 && r.c.Known() > 1 {
			l.Te = 1 + uint64(r.Int63n(int64(r.c.Known())-1))
		}
		if r.Intn(4) == 0 && l.Kind != api.LtHello {
			l.De = uint64(r.Intn(5))
		}
		isEarlier := l.Te < r.c.Known()
		isOther := l.Kind != api.LtHello && l.De != r.c.Epoch() && r.c.Known() != 0
		if !isEarlier && !isOther {
			r.say(bytesOf(r.T, l))
			r.work()
			return
		}
		was := r.state()
		a := r.say(bytesOf(r.T, l))
		if r.state() != was || isEarlier && a.Kind != 0 {
			r.Fatalf("%s: %+v changed something, %+v", r.comment, l, a)
		}
	})
}

// hear keeps the greatest stable end that was told to the component and not refused.
func (r *player) hear(l api.Letter) {
	isServed := r.c.Up() && l.Te == r.c.Known() && (l.Kind == api.LtHello || l.De == r.c.Epoch())
	if isServed && (l.Kind == api.LtHello || l.Kind == api.LtMarks) {
		r.greatest = max(r.greatest, l.A)
	}
}

// P21.5: after a LtHello of a later epoch no page has a number that was not stable.
func TestLostNumbers(t *testing.T) {
	eachSetting(t, 600, func(r *player) {
		l := r.letter()
		if r.Intn(20) == 0 {
			l = hello(r.c.Known()+1, r.mark())
		}
		isLater := r.c.Known() != 0 && l.Te > r.c.Known() && l.Kind == api.LtHello
		r.say(bytesOf(r.T, l))
		r.hear(l)
		for isLater {
			for _, p := range r.c.Forest() {
				if n := greatestOf(p.Set); n > r.greatest {
					r.Fatalf("%s: the number %d is above %d", r.comment, n, r.greatest)
				}
			}
			if r.c.Up() {
				break
			}
			r.c.Boot()
			r.p.core.Boot()
		}
		if r.Intn(2) == 0 {
			r.work()
		}
	})
}

func greatestOf(s api.Lsns) uint64 {
	for _, n := range s.In {
		s.Low = max(s.Low, n)
	}
	return s.Low
}

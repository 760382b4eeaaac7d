package dcore_test

import (
	"fmt"
	"math/rand"
	"slices"
	"testing"

	"lockkeeper/api"
	"lockkeeper/dcore"
)

// setting is options, and devices for them.
type setting struct {
	o            api.CoreOptions
	places, room int
}

func settings() []setting {
	return []setting{
		{api.CoreOptions{Frames: 8, Most: 40, Cell: 20, In: 10}, 20, 200000},
		{api.CoreOptions{Frames: 400, Most: 40, Cell: 20, In: 3}, 40, 200000},
		{api.CoreOptions{Frames: 12, Most: 8, Cell: 9, In: 1}, 60, 200000},
		{api.CoreOptions{Frames: 9, Most: 250, Cell: 30, In: 900}, 30, 200000},
		{api.CoreOptions{Frames: 30, Most: 60, Cell: 16, In: 40}, 8, 200000},
		{api.CoreOptions{Frames: 20, Most: 50, Cell: 16, In: 5}, 40, 900},
		{api.CoreOptions{Frames: 8, Most: 192, Cell: 20, In: 2}, 60, 3000},
	}
}

// player makes calls at random.
type player struct {
	*rand.Rand
	o   api.CoreOptions
	lsn uint64
}

func (r *player) key() string {
	k := ""
	for range 1 + r.Intn(min(3, r.o.Cell)) {
		k += string(rune('a' + r.Intn(6)))
	}
	return k
}

func (r *player) bound() string {
	if r.Intn(4) == 0 {
		return ""
	}
	return r.key()
}

// op is an operation, most often with a number that is a little above those before it.
func (r *player) op() api.Op {
	n := 1 + uint64(r.Int63n(int64(r.lsn)+1))
	if r.Intn(6) > 0 {
		r.lsn += uint64(1 + r.Intn(2))
		n = r.lsn
	}
	return r.deed(n)
}

// deed is an operation with that number.
func (r *player) deed(n uint64) api.Op {
	op := api.Op{Lsn: n, Key: r.key()}
	if r.Intn(3) == 0 {
		op.Del = true
		return op
	}
	for range r.Intn(1 + max(0, r.o.Cell-len(op.Key))) {
		op.Value += string(rune('A' + r.Intn(26)))
	}
	return op
}

// wrong is an operation that is refused, or would be if it were not for its length.
func (r *player) wrong() api.Op {
	op := r.op()
	switch r.Intn(6) {
	case 0:
		op.Lsn = 0
	case 1:
		op.Lsn = maxLsn + uint64(r.Intn(2))
	case 2:
		op.Del, op.Value = true, "x"
	case 3:
		op.Key = ""
	case 4:
		op.Del, op.Value = false, fmt.Sprintf("%*d", max(1, r.o.Cell-len(op.Key)+r.Intn(3)-1), 0)
	case 5:
		op.Key = fmt.Sprintf("%*d", r.o.Cell+r.Intn(3)-1, 0)
	}
	return op
}

func (r *player) span() api.Range {
	s := api.Range{From: r.bound(), To: r.bound(), End: true}
	if r.Intn(3) == 0 {
		s.To, s.End = "", false
	}
	if r.Intn(20) == 0 {
		s.End = !s.End
	}
	return s
}

// step makes one call of both, and says which.
func (r *player) step(t *testing.T, c *dcore.Core, p *plain) {
	t.Helper()
	was := p.comment
	tell := func(got, want string, call ...any) {
		t.Helper()
		p.comment = fmt.Sprintf("%s, %v", was, call)
		if got != want {
			t.Fatalf("%s: %s, not %s", p.comment, got, want)
		}
	}
	switch n := r.Intn(100); {
	case n < 40:
		op := r.op()
		tell(fmt.Sprint(c.Do(op)), fmt.Sprint(p.do(op)), "do", op)
	case n < 43:
		op := r.wrong()
		tell(fmt.Sprint(c.Do(op)), fmt.Sprint(p.do(op)), "do", op)
	case n < 48:
		key := r.key()
		v, is, e := c.Get(key)
		w, are, f := p.get(key)
		tell(fmt.Sprintf("%q %v %v", v, is, e), fmt.Sprintf("%q %v %v", w, are, f), "get", key)
	case n < 52:
		s, most := r.span(), r.Intn(8)
		l, more, e := c.Scan(s, most)
		w, are, f := p.scan(s, most)
		tell(fmt.Sprintf("%q %v %v", l, more, e), fmt.Sprintf("%q %v %v", w, are, f), "scan", s, most)
	case n < 56:
		eosl := uint64(r.Int63n(int64(r.lsn) + 9))
		low := uint64(r.Int63n(int64(r.lsn) + 1))
		if r.Intn(30) == 0 {
			eosl += maxLsn
		}
		tell(fmt.Sprint(c.Note(eosl, low)), fmt.Sprint(p.note(eosl, low)), "note", eosl, low)
	case n < 57:
		kind := uint8(r.Intn(10)) * uint8(r.Intn(29))
		is, e := c.Work(kind)
		are, f := p.work(kind)
		tell(fmt.Sprint(is, e), fmt.Sprint(are, f), "work", kind)
	case n < 59 && !p.up || n < 58:
		is, e := c.Boot()
		are, f := p.boot()
		tell(fmt.Sprint(is, e), fmt.Sprint(are, f), "boot")
	default:
		kind := uint8(1 + r.Intn(7))
		is, e := c.Work(kind)
		are, f := p.work(kind)
		tell(fmt.Sprint(is, e), fmt.Sprint(are, f), "work", kind)
	}
}

// keep is which sectors of pending writes a power loss keeps.
func (r *player) keep(pending int) []uint64 {
	var l []uint64
	for range r.Intn(pending + 2) {
		switch r.Intn(3) {
		case 0:
			l = append(l, 0)
		case 1:
			l = append(l, 1<<64-1)
		default:
			l = append(l, r.Uint64())
		}
	}
	return l
}

// crash is a power loss of both, in the same way.
func (r *player) crash(a, b disks) {
	pages, heart := r.keep(a.pages.Pending()), r.keep(a.heart.Pending())
	log := r.Intn(int(a.log.End()-a.log.Sure())+3) - 1
	for _, d := range []disks{a, b} {
		d.pages.Crash(pages)
		d.heart.Crash(heart)
		d.log.Crash(log)
	}
}

// P18.2 to P18.9: all calls at random, in cores of all kinds of options, are held against the plain core, and so are the devices; also after crashes and stops.
func TestCallsAtRandom(t *testing.T) {
	eachSetting(t, func(t *testing.T, s setting) {
		for seed := range 5 {
			playAtRandom(t, s, int64(seed), 300)
		}
	})
}

// eachSetting tests all settings at once, as that takes long.
func eachSetting(t *testing.T, test func(t *testing.T, s setting)) {
	for _, s := range settings() {
		t.Run(fmt.Sprint(s), func(t *testing.T) {
			t.Parallel()
			test(t, s)
		})
	}
}

func playAtRandom(t *testing.T, s setting, seed int64, steps int) {
	t.Helper()
	r := &player{rand.New(rand.NewSource(seed)), s.o, 0}
	d := newDisks(s.o, s.places, s.room)
	twin := d.copy()
	for life := range 4 {
		c, e := d.open(s.o)
		p, f := openPlain(twin, s.o)
		if e != f || e != api.OK {
			t.Fatalf("%v, seed %d, life %d: open: %v, not %v", s, seed, life, e, f)
		}
		for i := range r.Intn(2 * steps) {
			p.comment = fmt.Sprintf("%v, seed %d, life %d, step %d", s, seed, life, i)
			r.step(t, c, p)
			p.compare(t, c)
			if i%50 == 0 && d.told() != twin.told() {
				t.Fatalf("%s: the devices differ", p.comment)
			}
		}
		if r.Intn(3) == 0 {
			c.Stop()
			p.stop()
		} else {
			r.crash(d, twin)
		}
		if d.told() != twin.told() {
			t.Fatalf("%s: the devices differ after it", p.comment)
		}
	}
}

// done is what is known of operations beside the core.
type done struct {
	ops  map[uint64]api.Op
	most uint64
}

// agrees holds each leaf against the operations whose numbers its Set contains.
func (h done) agrees(f []api.Page) error {
	for _, p := range f {
		if p.Level > 0 {
			continue
		}
		var l []api.Cell
		for n := uint64(1); n <= h.most; n++ {
			op, is := h.ops[n]
			if !is || !contains(p.Set, n) || !inRange(p, op.Key) {
				continue
			}
			l = slices.DeleteFunc(l, func(c api.Cell) bool { return c.Key == op.Key })
			if !op.Del {
				l = append(l, api.Cell{Key: op.Key, Value: op.Value})
			}
		}
		slices.SortFunc(l, func(a, b api.Cell) int {
			if a.Key < b.Key {
				return -1
			}
			return 1
		})
		if !slices.Equal(l, p.Cells) {
			return fmt.Errorf("the leaf %v has not %v", p, l)
		}
	}
	return nil
}

// has holds a forest against the operations that must be there: those with numbers below oldest (0: all).
func (h done) has(f []api.Page, oldest uint64) error {
	for n, op := range h.ops {
		for _, p := range f {
			if p.Level == 0 && inRange(p, op.Key) && !contains(p.Set, n) && (n < oldest || oldest == 0) {
				return fmt.Errorf("the operation %v is not in %v", op, p)
			}
		}
	}
	return nil
}

package dcore_test

import (
	"fmt"
	"maps"
	"math/rand"
	"slices"
	"strings"
	"testing"

	"lockkeeper/api"
	"lockkeeper/change"
	"lockkeeper/dcore"
	"lockkeeper/master"
	"lockkeeper/page"
	"lockkeeper/record"
	"lockkeeper/route"
)

// client gives out operations as a transaction component does: those on one key are done in the order of their numbers, all others in any order; and what may be lost is done again.
type client struct {
	*player
	d    disks
	c    *dcore.Core
	ops  map[uint64]api.Op
	open map[uint64]bool
	eosl uint64
	told string
}

func newClient(t *testing.T, s setting, seed int64) *client {
	t.Helper()
	r := &client{player: &player{rand.New(rand.NewSource(seed)), s.o, 0}, d: newDisks(s.o, s.places, s.room), ops: map[uint64]api.Op{}, open: map[uint64]bool{}}
	r.told = fmt.Sprintf("%v, seed %d", s, seed)
	r.start(t)
	return r
}

func (r *client) start(t *testing.T) {
	t.Helper()
	var e api.Errno
	if r.c, e = r.d.open(r.o); e != api.OK {
		t.Fatalf("%s: open: %v", r.told, e)
	}
	for i := range 2 {
		if is, e := r.c.Boot(); is != (i == 1) || e != api.OK {
			t.Fatalf("%s: boot %d: %v %v", r.told, i, is, e)
		}
	}
}

// pending is the operations that are not done yet, and that no other one on their keys is ahead of.
func (r *client) pending() []uint64 {
	var l []uint64
	keys := map[string]bool{}
	for _, n := range slices.Sorted(maps.Keys(r.open)) {
		if key := r.ops[n].Key; !keys[key] {
			keys[key] = true
			l = append(l, n)
		}
	}
	return l
}

// low is the greatest number up to which all operations are done.
func (r *client) low() uint64 {
	low := r.lsn
	for n := range r.open {
		low = min(low, n-1)
	}
	return low
}

// act does one thing: most often an operation, or a work.
func (r *client) act(t *testing.T) {
	t.Helper()
	switch n := r.Intn(20); {
	case n < 3 && len(r.open) < 9:
		r.lsn++
		r.ops[r.lsn], r.open[r.lsn] = r.deed(r.lsn), true
	case n < 9:
		if l := r.pending(); len(l) > 0 {
			n := l[r.Intn(len(l))]
			if e := r.c.Do(r.ops[n]); e == api.OK {
				delete(r.open, n)
			} else if e != api.ErrFull {
				t.Fatalf("%s: do: %v", r.told, e)
			}
		}
	case n < 10:
		// An operation that was done comes again.
		if n := uint64(r.Intn(int(r.lsn) + 1)); n > 0 && !r.open[n] {
			if e := r.c.Do(r.ops[n]); e != api.OK && e != api.ErrFull {
				t.Fatalf("%s: do again: %v", r.told, e)
			}
		}
	case n < 12:
		r.eosl = max(r.eosl, uint64(r.Intn(int(r.lsn)+1)))
		r.c.Note(r.eosl, uint64(r.Intn(int(r.low())+1)))
	default:
		kind := uint8(1 + r.Intn(7))
		if is, e := r.c.Work(kind); e != api.OK && (e != api.ErrFull || is) {
			t.Fatalf("%s: work %d: %v %v", r.told, kind, is, e)
		}
	}
}

func (r *client) known() done {
	ops := maps.Clone(r.ops)
	maps.DeleteFunc(ops, func(n uint64, _ api.Op) bool { return r.open[n] })
	return done{ops, r.lsn}
}

// lose is what the client finds after a crash: what Oldest told to be durable is there, and all else is open again.
func (r *client) lose(oldest uint64) {
	for n := oldest; oldest > 0 && n <= r.lsn; n++ {
		r.open[n] = true
	}
}

// check holds the forest of the core, or of one that was opened after a crash of it, against the operations that were done.
func (r *client) check(t *testing.T, c *dcore.Core, oldest uint64) {
	t.Helper()
	f := c.Forest()
	if e := route.Check(f, 1); e != api.OK {
		t.Fatalf("%s: the forest is not valid: %v", r.told, f)
	}
	// Operations that are open may be there nevertheless: they were done ahead of a crash.
	if e := (done{r.ops, r.lsn}).agrees(f); e != nil {
		t.Fatalf("%s: %v", r.told, e)
	}
	if e := r.known().has(f, oldest); e != nil {
		t.Fatalf("%s, oldest %d: %v", r.told, oldest, e)
	}
}

// gate holds what the devices have against the stable ends.
func (r *client) gate(t *testing.T) {
	t.Helper()
	for b := range r.d.pages.Blocks() {
		s, _ := r.d.pages.Read(b)
		_, s, _ = master.Unpack(s)
		if p, e := page.Get(s); e == api.OK && (most(p.Set) > r.eosl || p.Dsn > r.c.Stable()) {
			t.Fatalf("%s: eosl %d, stable %d: the device has %v", r.told, r.eosl, r.c.Stable(), p)
		}
	}
	s, _ := r.d.log.Read(r.d.log.Base(), r.d.log.End())
	l, _, _ := record.Scan(s)
	for _, rec := range l {
		c, e := change.Get(rec.Data[8:])
		if e != api.OK || rec.Kind != 1 || change.Most(c) > r.eosl {
			t.Fatalf("%s: eosl %d: the tape has %v", r.told, r.eosl, c)
		}
	}
}

// P18.10 to P18.12: at all times, and after a crash at any time, of which anything is kept.
func TestLivesAtRandom(t *testing.T) {
	eachSetting(t, func(t *testing.T, s setting) {
		for seed := range 4 {
			live(t, newClient(t, s, int64(seed)), 500)
		}
	})
}

func live(t *testing.T, r *client, steps int) {
	t.Helper()
	told := r.told
	for i := range steps {
		r.told = fmt.Sprintf("%s, step %d", told, i)
		r.act(t)
		oldest := r.c.Oldest()
		// Ops that the core has are never lost while it lives.
		r.check(t, r.c, 0)
		if i%7 == 0 {
			r.gate(t)
			d := r.d.copy()
			// The second time the crash is during recovery.
			for range 2 {
				r.crash(d, disks{})
				c, e := d.open(r.o)
				if e != api.OK {
					t.Fatalf("%s: open after a crash: %v", r.told, e)
				}
				r.check(t, c, oldest)
				for range r.Intn(3) {
					c.Boot()
				}
			}
		}
		if r.Intn(150) == 0 {
			r.crash(r.d, disks{})
			r.lose(oldest)
			r.start(t)
		}
	}
}

// rest does all works, by turns, as long as one returns true.
func (r *client) rest(t *testing.T) {
	t.Helper()
	for range 3000 {
		idle := true
		for kind := uint8(1); kind <= 7; kind++ {
			for {
				is, e := r.c.Work(kind)
				if e != api.OK && e != api.ErrFull {
					t.Fatalf("%s: work %d: %v", r.told, kind, e)
				}
				if !is {
					break
				}
				idle = false
			}
		}
		if idle {
			return
		}
	}
	t.Fatalf("%s: the works do not come to an end", r.told)
}

// P18.13: with all done and stable, the works come to an end, and leave nothing to do; if Most is great enough.
func TestWorksEnd(t *testing.T) {
	for _, s := range []setting{
		{api.CoreOptions{Frames: 8, Most: 192, Cell: 20, In: 2}, 60, 40000},
		{api.CoreOptions{Frames: 8, Most: 84, Cell: 2, In: 1}, 60, 5000},
		{api.CoreOptions{Frames: 50, Most: 200, Cell: 20, In: 30}, 60, 4000},
	} {
		for seed := range 12 {
			r := newClient(t, s, int64(seed))
			for range 4 {
				for range r.Intn(600) {
					r.act(t)
				}
				r.end(t)
			}
		}
	}
}

// end does what is open, and all works, and looks at what is left.
func (r *client) end(t *testing.T) {
	t.Helper()
	for range 1000 {
		for _, n := range r.pending() {
			if r.c.Do(r.ops[n]) == api.OK {
				delete(r.open, n)
			}
		}
		r.eosl = r.lsn
		r.c.Note(r.eosl, r.low())
		r.rest(t)
		if len(r.open) == 0 {
			break
		}
	}
	f := r.c.Forest()
	switch {
	case len(r.open) > 0:
		t.Fatalf("%s: %d are never done", r.told, len(r.open))
	case len(route.Unposted(f, 1)) > 0:
		t.Fatalf("%s: not posted: %v", r.told, f)
	case r.c.Oldest() != 0, r.d.log.Base() != r.d.log.End(), r.c.From() != r.c.Stable()+1:
		t.Fatalf("%s: oldest %d, log from %d to %d, from %d, stable %d", r.told, r.c.Oldest(), r.d.log.Base(), r.d.log.End(), r.c.From(), r.c.Stable())
	}
	r.check(t, r.c, 0)
	c, e := r.d.copy().crash().open(r.o)
	// The low is not durable.
	c.Note(0, r.low())
	if e != api.OK || !route.Same(f, c.Forest()) {
		t.Fatalf("%s: something was not durable: %v", r.told, e)
	}
	if !r.hasAll(f) {
		t.Fatalf("%s: the forest has not what the operations make", r.told)
	}
}

// hasAll holds the cells of all leaves against what all operations make.
func (r *client) hasAll(f []api.Page) bool {
	now := map[string]string{}
	for n := uint64(1); n <= r.lsn; n++ {
		if op := r.ops[n]; op.Del {
			delete(now, op.Key)
		} else {
			now[op.Key] = op.Value
		}
	}
	l := route.Cells(f, 1)
	var want []string
	for _, key := range slices.Sorted(maps.Keys(now)) {
		want = append(want, key+" "+now[key])
	}
	var got []string
	for _, c := range l {
		got = append(got, c.Key+" "+c.Value)
	}
	return strings.Join(got, ",") == strings.Join(want, ",")
}

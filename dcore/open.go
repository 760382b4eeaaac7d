package dcore

import (
	"lockkeeper/api"
	"lockkeeper/block"
	"lockkeeper/change"
	"lockkeeper/master"
	"lockkeeper/octet"
	"lockkeeper/page"
	"lockkeeper/pool"
	"lockkeeper/route"
	"lockkeeper/tape"
	"lockkeeper/vault"
	"lockkeeper/wal"
)

const (
	// recordKind is the Kind of all records of a core's log.
	recordKind = 1
	markWidth  = 8
	// pieceSize is how many bytes of a page a sector takes, and lengthSize how many it takes to tell how many they are (layer 9).
	pieceSize  = 56
	lengthSize = 4
)

// Open returns the core that the devices contain, which is not up.
func Open(pages, heart *block.Dev, log *tape.Tape, o api.CoreOptions) (*Core, api.Errno) {
	on := devices{pages, heart, log}
	switch {
	case on.areMissing():
		return nil, api.ErrNil
	case Check(o) != api.OK, !fits(pages, o), heart.Blocks() < 2:
		return nil, api.ErrArg
	}
	// Neither these nor the pool are refused: the devices are there and have blocks enough, and the options are valid.
	m, _ := master.Open(heart)
	v, _ := vault.Open(pages)
	epoch, from, is := marksOf(m.Data())
	if !is {
		return nil, api.ErrCore
	}
	f, e := on.forest(v, from)
	if e != api.OK {
		return nil, e
	}
	w, e := on.settle(v, from, f)
	if e != api.OK {
		return nil, e
	}
	frames, _ := pool.New(v, o.Frames)
	return &Core{
		tree:    tree{Pool: frames, vault: v, used: idsOf(f), open: route.Unposted(f, api.Root)},
		log:     w,
		master:  m,
		on:      on,
		options: o,
		epoch:   epoch + 1,
		from:    from,
	}, api.OK
}

// areMissing reports whether one of the devices is no object.
func (d devices) areMissing() bool {
	_, e := d.log.Read(d.log.Base(), d.log.Base())
	return d.pages.Blocks() == 0 || d.heart.Blocks() == 0 || e == api.ErrNil
}

// fits reports whether a device for pages fits the options.
func fits(pages *block.Dev, o api.CoreOptions) bool {
	return pages.Blocks() >= 16 && pages.Size()/api.SectorSize*pieceSize-lengthSize >= Need(o)
}

// forest returns the pages in use that the devices contain; it changes nothing.
func (d devices) forest(v *vault.Vault, from uint64) ([]api.Page, api.Errno) {
	// A log that is opened cuts its tape, which is to stay as it is if the devices contain no core.
	w, e := wal.Open(d.log.Copy(), from-1)
	if e != api.OK {
		return nil, api.ErrCore
	}
	f := reached(redone(stored(v), w.From(from)))
	if route.Check(f, api.Root) != api.OK {
		return nil, api.ErrCore
	}
	return f, api.OK
}

// stored returns the pages of a vault, with an empty root if it has none.
func stored(v *vault.Vault) []api.Page {
	f := []api.Page{}
	for _, id := range v.Ids() {
		p, _ := v.Get(id)
		f = append(f, p)
	}
	if _, is := route.At(f, api.Root); !is {
		f = route.Put(f, api.Page{Id: api.Root})
	}
	return f
}

// redone returns the forest after the changes that the records are; it is empty, as no valid one is, if a record is none.
func redone(f []api.Page, records []api.Entry) []api.Page {
	for _, r := range records {
		// Of a change that can't be read the number is 0, which is no record's.
		c, _ := change.Get(r.Data)
		if r.Kind != recordKind || change.Number(c) != r.N {
			return nil
		}
		f, _ = change.Apply(f, c)
	}
	return f
}

// settle opens the log, and makes the pages durable.
func (d devices) settle(v *vault.Vault, from uint64, f []api.Page) (*wal.Wal, api.Errno) {
	var l []api.Page
	for _, p := range f {
		if q, e := v.Get(p.Id); e != api.OK || !page.Same(p, q) {
			l = append(l, p)
		}
	}
	// The device is to stay as it is if the vault takes not all of them, which shows on a copy.
	if len(l) > 0 {
		trial, _ := vault.Open(d.pages.Copy())
		if e := store(trial, l); e != api.OK {
			return nil, e
		}
	}
	// What a copy contained, the log contains.
	w, _ := wal.Open(d.log, from-1)
	return w, store(v, l)
}

// store makes pages durable in a vault.
func store(v *vault.Vault, l []api.Page) api.Errno {
	for _, p := range l {
		if e := v.Put(p); e != api.OK {
			return e
		}
	}
	return v.Sync()
}

func idsOf(f []api.Page) ids {
	var l ids
	for _, p := range f {
		l = append(l, p.Id)
	}
	return l
}

// marks returns the master's string of an epoch and a from.
func marks(epoch, from uint64) string {
	return string(octet.Put(octet.Put(nil, epoch, markWidth), from, markWidth))
}

// marksOf returns the epoch and the from that a master's string is, and whether a core may be opened with them.
func marksOf(s string) (epoch, from uint64, are bool) {
	if s == "" {
		return 0, 1, true
	}
	r := octet.Open([]byte(s))
	epoch, from = r.Num(markWidth), r.Num(markWidth)
	// Of a string that is too short, 0 is read as from.
	return epoch, from, r.Left() == 0 && epoch <= api.MaxLsn && from >= 1 && from <= api.MaxLsn
}

// putMarks begins to write the core's epoch, and a from.
func (c *Core) putMarks(from uint64) api.Errno { return c.master.Put(marks(c.epoch, from)) }

// takeMarks makes what is being written durable: the records below that from are not needed any more.
func (c *Core) takeMarks() api.Errno {
	// A string is being written, so that it is not refused.
	c.master.Sync()
	_, c.from, _ = marksOf(c.master.Data())
	return c.log.Trim(c.from)
}

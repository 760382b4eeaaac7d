package dcore

import (
	"slices"

	"lockkeeper/api"
	"lockkeeper/change"
	"lockkeeper/merge"
	"lockkeeper/split"
	"lockkeeper/wal"
)

// waiting are changes that are no records yet, in the order of their numbers.
type waiting []step

// step is a change that is waiting: its bytes, and the greatest number in a Set of its pages.
type step struct {
	bytes string
	most  uint64
}

// need returns the stable end that the changes need to become records.
func (l waiting) need() uint64 {
	var most uint64
	for _, s := range l {
		most = max(most, s.most)
	}
	return most
}

// cost returns the number of bytes of the records that the changes will be.
func (l waiting) cost() int {
	sum := 0
	for _, s := range l {
		sum += wal.Cost(len(s.bytes))
	}
	return sum
}

// change makes a change of pages and of those that are gone, for which there is room in the pool; leaves are put with the number first.
func (c *Core) change(pages []api.Page, gone []uint64, first uint64) api.Errno {
	// Pages and numbers are those of a change, so that it has no bytes only if the log has no number for it.
	made, _ := change.Make(pages, gone, c.log.Last()+uint64(len(c.waiting))+1)
	bytes, e := change.Put(made)
	next := append(c.waiting, step{bytes, change.Most(made)})
	if e != api.OK || c.log.Room() < next.cost() {
		return api.ErrFull
	}
	c.waiting = next
	c.tree.take(made, first)
	return api.OK
}

// replace makes a change of one page, and of those that are gone; a leaf is put with the number first.
func (c *Core) replace(p api.Page, first uint64, gone ...uint64) api.Errno {
	if _, e := c.tree.room(0); e != api.OK {
		return e
	}
	return c.change([]api.Page{p}, gone, first)
}

// part makes a change of the parts of a page that is too full; leaves are put with the number first.
func (c *Core) part(p api.Page, first uint64) api.Errno {
	if p.Id == api.Root {
		return c.grow(p, first)
	}
	free, e := c.tree.room(1)
	if e != api.OK {
		return e
	}
	// A page that is too full has two cells, and is not refused.
	lower, upper, _ := split.Split(p, free[0], 0)
	if e := c.change([]api.Page{lower, upper}, nil, first); e != api.OK {
		return e
	}
	c.tree.open = c.tree.open.with(upper.Id)
	return api.OK
}

// grow makes a change of the parts of the root, and of what stands above them in its place.
func (c *Core) grow(root api.Page, first uint64) api.Errno {
	free, e := c.tree.room(2)
	if e != api.OK {
		return e
	}
	top, lower, upper, e := split.Grow(root, free[0], free[1], 0)
	if e != api.OK {
		return e
	}
	return c.change([]api.Page{top, lower, upper}, nil, first)
}

// force makes records of the changes that wait, or makes the records stable.
func (c *Core) force() (bool, api.Errno) {
	switch {
	case len(c.waiting) > 0 && c.waiting.need() <= c.eosl:
		for _, s := range c.waiting {
			// The tape has room for all of them, as each was made only if it had.
			c.log.Append(recordKind, s.bytes)
		}
		c.waiting = nil
		return true, api.OK
	case c.log.Stable() < c.log.Last():
		return did(c.log.Force())
	}
	return false, api.OK
}

// flush begins to write the first page that must be written and may be.
func (c *Core) flush() (bool, api.Errno) {
	for _, id := range c.tree.Changed() {
		if c.tree.Ready(id, c.eosl, c.log.Stable()) {
			return did(c.tree.Flush(id, c.eosl, c.log.Stable()))
		}
	}
	return false, api.OK
}

// sync makes the pages durable that are being written.
func (c *Core) sync() (bool, api.Errno) {
	if len(c.tree.Ways()) == 0 {
		return false, api.OK
	}
	return did(c.tree.Sync())
}

// post posts the open page with the lowest Id.
func (c *Core) post() (bool, api.Errno) {
	if len(c.tree.open) == 0 {
		return false, api.OK
	}
	child := c.tree.aside().page(c.tree.open[0])
	parent, _ := c.tree.aside().to(child.Low, child.Level+1)
	// A page that is not posted is not refused.
	parent, _ = split.Post(parent, child, 0)
	var e api.Errno
	if split.Over(parent, c.options.Most) {
		e = c.part(parent, 0)
	} else {
		e = c.replace(parent, 0)
	}
	if e != api.OK {
		return false, e
	}
	c.tree.open = c.tree.open.without(child.Id)
	return true, api.OK
}

// merge does the next thing by which two leaves become one.
func (c *Core) merge() (bool, api.Errno) {
	if c.tree.out == 0 {
		return c.unpost()
	}
	return c.join()
}

// unpost removes the first leaf from its parent that can be joined to its left neighbour.
func (c *Core) unpost() (bool, api.Errno) {
	// The first leaf has no left neighbour: the zero page in its place is adjacent to none.
	var p api.Page
	for u := range c.tree.aside().leaves("") {
		if parent, is := c.without(p, u); is {
			if e := c.replace(parent, 0); e != api.OK {
				return false, e
			}
			c.tree.out = u.Id
			return true, api.OK
		}
		p = u
	}
	return false, api.OK
}

// without returns the parent of a leaf without it, and whether the leaf can be joined to its left neighbour.
func (c *Core) without(p, u api.Page) (api.Page, bool) {
	// Half of Most leaves room for what is done until they are joined.
	if c.tree.open.has(u.Id) || !merge.Under(p, u, c.options.Most/2) || max(p.Set.Low, u.Set.Low) > c.tree.low {
		return api.Page{}, false
	}
	parent, _ := c.tree.aside().to(u.Low, u.Level+1)
	parent, e := merge.Unpost(parent, u, 0)
	return parent, e == api.OK
}

// join joins the page that is out to its left neighbour, or gives that up.
func (c *Core) join() (bool, api.Errno) {
	// What is not posted is reached from its left neighbour alone.
	u, p := c.tree.aside().to(c.tree.aside().page(c.tree.out).Low, 0)
	joined, e := merge.Join(p, u, c.tree.low, 0)
	switch {
	case e != api.OK, !merge.Under(p, u, c.options.Most), len(joined.Set.In) > c.options.In:
		c.tree.open = c.tree.open.with(u.Id)
	case slices.Contains(c.tree.Ways(), u.Id):
		return false, api.OK
	default:
		first := lesser(c.tree.First(p.Id), c.tree.First(u.Id))
		if e := c.replace(joined, first, u.Id); e != api.OK {
			return false, e
		}
	}
	c.tree.out = 0
	return true, api.OK
}

// point begins to write from where on recovery must read the log.
func (c *Core) point() (bool, api.Errno) {
	if c.master.Busy() {
		return false, api.OK
	}
	from := c.nextFrom()
	if from <= c.from {
		return false, api.OK
	}
	return did(c.putMarks(from))
}

// nextFrom returns from where on recovery would have to read the log.
func (c *Core) nextFrom() uint64 {
	from := c.log.Stable() + 1
	for _, id := range slices.Concat(c.tree.Changed(), c.tree.Ways()) {
		if p, _ := c.tree.Look(id); p.Dsn >= c.from {
			from = min(from, p.Dsn)
		}
	}
	if from <= c.from {
		return c.from
	}
	return c.firstNeeded(from)
}

// firstNeeded returns from, or the number of the first record ahead of it that recovery needs, as neither the vault nor a later stable record has a page of it. The pages in memory do not tell of such a record if a change that is not stable yet has hidden it.
func (c *Core) firstNeeded(from uint64) uint64 {
	var later ids
	for _, r := range slices.Backward(c.log.From(c.from)) {
		if r.N > c.log.Stable() {
			continue
		}
		made, _ := change.Get(r.Data)
		for _, p := range made.Pages {
			if !later.has(p.Id) && !c.tree.isStored(p) {
				from = min(from, r.N)
			}
		}
		for _, id := range slices.Concat(idsOf(made.Pages), made.Gone) {
			later = later.with(id)
		}
	}
	return from
}

// seal makes durable from where on recovery must read the log, and drops what is ahead of that.
func (c *Core) seal() (bool, api.Errno) {
	if !c.master.Busy() {
		return false, api.OK
	}
	return did(c.takeMarks())
}

// did returns what a work returns that had something to do.
func did(e api.Errno) (bool, api.Errno) { return e == api.OK, e }

package dcore

import (
	"iter"
	"slices"

	"lockkeeper/api"
	"lockkeeper/lsns"
	"lockkeeper/page"
	"lockkeeper/pool"
	"lockkeeper/route"
	"lockkeeper/vault"
)

// tree is the pages in use, as they are in a pool, or otherwise in its vault.
type tree struct {
	*pool.Pool
	vault *vault.Vault
	// used are all of them; open those that are not posted, but for the one that is out (0: none is).
	used, open ids
	out        uint64
	// low is the number up to which all operations are done, so that each leaf contains them.
	low uint64
}

// ids are numbers of pages, in ascending order.
type ids []uint64

// reader reads pages of the forest.
type reader struct {
	read func(id uint64) (api.Page, api.Errno)
	low  uint64
	// pages is how many there are: a walk with more steps would never end.
	pages int
}

// framed returns a reader for what is asked of the core: each page that it reads gets a frame, and reading fails if there is no room.
func (t *tree) framed() reader { return reader{t.Get, t.low, len(t.used)} }

// aside returns a reader for the works: it leaves the frames to what is asked of the core.
func (t *tree) aside() reader { return reader{t.Look, t.low, len(t.used)} }

// page returns a page of the forest. If it can't be read, all that reads gives up, by a panic with the error number.
func (r reader) page(id uint64) api.Page {
	p, e := r.read(id)
	if e != api.OK {
		panic(e)
	}
	return raised(p, r.low)
}

// to returns the page of a level whose range contains the key, and the page ahead of it on the way from the root.
func (r reader) to(key string, level uint8) (p, before api.Page) {
	id := uint64(api.Root)
walk:
	for range r.pages {
		before, p = p, r.page(id)
		next, way, e := route.Step(p, key, level)
		switch {
		case e != api.OK:
			break walk
		case way == api.WayHere:
			return p, before
		}
		id = next
	}
	// So it is with no valid forest, but perhaps with one whose devices crashed, and that was not opened again.
	panic(api.ErrTree)
}

// leaves goes through the leaves by ascending keys, from the one on whose range contains the key.
func (r reader) leaves(key string) iter.Seq[api.Page] {
	return func(yield func(api.Page) bool) {
		p, _ := r.to(key, 0)
		for range r.pages {
			if !yield(p) || !p.End {
				return
			}
			p = r.page(p.Right)
		}
	}
}

// forest returns all pages in use, by ascending Ids.
func (t *tree) forest() []api.Page {
	var f []api.Page
	for _, id := range t.used {
		if p, e := t.Look(id); e == api.OK {
			f = append(f, raised(p, t.low))
		}
	}
	return f
}

// isStored reports whether the vault has a page as a change made it, or as a later one did.
func (t *tree) isStored(p api.Page) bool {
	q, e := t.vault.Get(p.Id)
	return e == api.OK && q.Dsn >= p.Dsn
}

// room makes room in the pool for the pages of a change, and returns so many of the lowest free numbers.
func (t *tree) room(numbers int) ([]uint64, api.Errno) {
	var free []uint64
	for id := uint64(api.Root + 1); len(free) < numbers; id++ {
		switch {
		case id > uint64(t.vault.Places()):
			return nil, api.ErrFull
		case !t.used.has(id):
			free = append(free, id)
		}
	}
	return free, t.Make(api.MaxPages)
}

// take makes the tree what it is after a change, for which there is room; leaves are put with the number first.
func (t *tree) take(c api.Change, first uint64) {
	for _, p := range c.Pages {
		lsn := first
		if p.Level > 0 {
			lsn = 0
		}
		t.Put(p, lsn)
		t.used = t.used.with(p.Id)
	}
	for _, id := range c.Gone {
		// A page without a frame is refused, and needs nothing.
		t.Drop(id)
		t.used = t.used.without(id)
	}
}

func (l ids) has(id uint64) bool {
	_, is := slices.BinarySearch(l, id)
	return is
}

func (l ids) with(id uint64) ids {
	at, is := slices.BinarySearch(l, id)
	if is {
		return l
	}
	return slices.Insert(l, at, id)
}

func (l ids) without(id uint64) ids {
	return slices.DeleteFunc(l, func(n uint64) bool { return n == id })
}

// raised returns a valid page, the Set of which is raised to the low if it is a leaf.
func raised(p api.Page, low uint64) api.Page {
	if p.Level == 0 {
		p.Set, _ = lsns.Raise(p.Set, low)
	}
	return p
}

// reached returns those pages of a forest that can be reached from the root. One that is missing makes what is left a forest that is not valid.
func reached(f []api.Page) []api.Page {
	var seen ids
	next := []uint64{api.Root}
	for len(next) > 0 {
		id := next[0]
		next = next[1:]
		if p, is := route.At(f, id); is && !seen.has(id) {
			seen = seen.with(id)
			next = append(next, targets(p)...)
		}
	}
	return slices.DeleteFunc(f, func(p api.Page) bool { return !seen.has(p.Id) })
}

// targets returns the pages to which a valid page leads: its right neighbour (0: none), and the children of its cells.
func targets(p api.Page) []uint64 {
	l := []uint64{p.Right}
	if p.Level == 0 {
		return l
	}
	for _, c := range p.Cells {
		id, _ := page.Id(c.Value)
		l = append(l, id)
	}
	return l
}

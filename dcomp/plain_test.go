package dcomp_test

import (
	"fmt"
	"strings"
	"testing"

	"lockkeeper/api"
	"lockkeeper/block"
	"lockkeeper/dcomp"
	"lockkeeper/dcore"
	"lockkeeper/letter"
	"lockkeeper/tape"
)

const maxLsn = uint64(1) << 48

// disks are the devices of a component.
type disks struct {
	pages, heart *block.Dev
	log          *tape.Tape
}

func newDisks(o api.CoreOptions, places, room int) disks {
	pages, _ := block.New(2*places, (dcore.Need(o)+4+55)/56)
	heart, _ := block.New(2, 1)
	return disks{pages, heart, tape.New(room)}
}

func (d disks) copy() disks { return disks{d.pages.Copy(), d.heart.Copy(), d.log.Copy()} }

func (d disks) open(o api.CoreOptions) (*dcomp.Comp, api.Errno) {
	return dcomp.Open(d.pages, d.heart, d.log, o)
}

func (d disks) openCore(o api.CoreOptions) (*dcore.Core, api.Errno) {
	return dcore.Open(d.pages, d.heart, d.log, o)
}

// told is what of the devices can be seen, and what a power loss would leave.
func (d disks) told() string {
	bytes, _ := d.log.Read(d.log.Base(), d.log.End())
	parts := []string{fmt.Sprint(d.log.Base(), d.log.Sure(), d.log.End()), bytes}
	for _, dev := range []*block.Dev{d.pages, d.heart} {
		parts = append(parts, fmt.Sprint(dev.Pending()))
		on := []*block.Dev{dev}
		if dev.Pending() > 0 {
			durable := dev.Copy()
			durable.Crash(nil)
			on = append(on, durable)
		}
		for _, dev := range on {
			for b := range dev.Blocks() {
				s, _ := dev.Read(b)
				parts = append(parts, s)
			}
		}
	}
	return strings.Join(parts, "|")
}

// bytesOf is a message's bytes.
func bytesOf(t *testing.T, l api.Letter) string {
	t.Helper()
	s, e := letter.Put(l)
	if e != api.OK {
		t.Fatalf("%+v is not valid", l)
	}
	return s
}

// state is what can be seen of a component or of a core.
type state interface {
	Up() bool
	Epoch() uint64
	Oldest() uint64
	Stable() uint64
	Forest() []api.Page
}

func seen(c state, known uint64) string {
	return fmt.Sprintf("known %d, up %v, epoch %d, oldest %d, stable %d, forest %v", known, c.Up(), c.Epoch(), c.Oldest(), c.Stable(), c.Forest())
}

// plain is the chapter's Terms and P21.2 once more, as plainly as can be: a core, its devices, and the epoch that is known.
type plain struct {
	core  *dcore.Core
	d     disks
	o     api.CoreOptions
	known uint64
}

func openPlain(d disks, o api.CoreOptions) (*plain, api.Errno) {
	core, e := d.openCore(o)
	return &plain{core, d, o, 0}, e
}

func (p *plain) seen() string { return seen(p.core, p.known) }

// take is the answer to a message; one of Kind 0 if there is none.
func (p *plain) take(s string) api.Letter {
	l, e := letter.Get(s)
	if e != api.OK || l.Kind < 1 || l.Kind > 6 || l.Te < p.known {
		return api.Letter{}
	}
	if l.Kind == 1 {
		return p.hello(l)
	}
	if !p.core.Up() {
		return api.Letter{}
	}
	if p.known != 0 && l.Te != p.known {
		return api.Letter{}
	}
	if p.known == 0 {
		p.known = l.Te
		return api.Letter{Kind: 17, Te: l.Te, De: p.core.Epoch()}
	}
	if l.De != p.core.Epoch() {
		return api.Letter{Kind: 17, Te: l.Te, De: p.core.Epoch()}
	}
	a, e := p.effect(l)
	if e != api.OK {
		return api.Letter{}
	}
	return a
}

func (p *plain) hello(l api.Letter) api.Letter {
	if l.Te > p.known && p.known != 0 {
		p.core.Stop()
		p.core, _ = p.d.openCore(p.o)
	}
	p.known = l.Te
	if !p.core.Up() {
		return api.Letter{}
	}
	p.core.Note(l.A, 0)
	return api.Letter{Kind: 17, Te: l.Te, De: p.core.Epoch()}
}

func (p *plain) effect(l api.Letter) (a api.Letter, e api.Errno) {
	a.Te, a.De = l.Te, l.De
	switch l.Kind {
	case 2:
		a.Kind, a.N = 18, l.Op.Lsn
		e = p.core.Do(l.Op)
	case 3:
		a.Kind, a.N = 19, l.N
		a.Op.Value, a.Is, e = p.core.Get(l.Op.Key)
	case 4:
		a.Kind, a.N = 20, l.N
		a.Cells, a.Is, e = p.core.Scan(l.R, int(l.A))
	case 5:
		a = api.Letter{}
		p.core.Note(l.A, l.B)
	case 6:
		a.Kind, a.A = 21, l.A
		a.B = p.core.Oldest()
	}
	return a, e
}

package master_test

import (
	"encoding/binary"
	"math"
	"math/rand"
	"strconv"
	"strings"
	"testing"

	"lockkeeper/api"
	"lockkeeper/block"
	"lockkeeper/master"
)

const (
	sector     = 64
	piece      = 56
	maxSectors = 256
	full       = uint64(1) << 63
)

func wants(t *testing.T, name string, got, want api.Errno) {
	t.Helper()
	if got != want {
		t.Errorf("%s: %v, not %v", name, got, want)
	}
}

// none returns what is no object.
func none() map[string]*master.Master { return map[string]*master.Master{"nil": nil, "zero": {}} }

func zeros(n int) string { return strings.Repeat("\x00", n) }

// text returns a string of some bytes, many of which differ, and among which are bytes 0.
func text(size int) string {
	b := make([]byte, size)
	for i := range b {
		b[i] = byte(i * i * 7)
	}
	return string(b)
}

func stamp(n uint64) string { return string(binary.BigEndian.AppendUint64(nil, n)) }

func length(n uint32) string { return string(binary.BigEndian.AppendUint32(nil, n)) }

// stamped lays stamps ahead of the pieces of a body; the last stamp stands for those that are missing.
func stamped(body string, stamps ...uint64) string {
	out := ""
	for i := range len(body) / piece {
		out += stamp(stamps[min(i, len(stamps)-1)]) + body[i*piece:(i+1)*piece]
	}
	return out
}

// plainPacked is a packed string as the chapter's Terms define it.
func plainPacked(version uint64, s string, sectors int) string {
	body := length(uint32(len(s))) + s
	return stamped(body+zeros(sectors*piece-len(body)), version)
}

// plainUnpacked tells by each condition of the Terms whether bytes are a packed string.
func plainUnpacked(b string) (uint64, string, bool) {
	if len(b) == 0 || len(b)%sector != 0 || len(b) > maxSectors*sector {
		return 0, "", false
	}
	version, body := binary.BigEndian.Uint64([]byte(b)), ""
	for at := 0; at < len(b); at += sector {
		if b[at:at+8] != b[:8] {
			return 0, "", false
		}
		body += b[at+8 : at+sector]
	}
	size := uint64(binary.BigEndian.Uint32([]byte(body)))
	if version == 0 || size > uint64(len(body)-4) || strings.Trim(body[4+size:], "\x00") != "" {
		return 0, "", false
	}
	return version, body[4 : 4+size], true
}

func plainTop(b string) uint64 {
	top := uint64(0)
	for at := 0; at+sector <= len(b); at += sector {
		top = max(top, binary.BigEndian.Uint64([]byte(b[at:])))
	}
	return top
}

// told shortens what a test tells.
func told(s string) string { return strconv.Quote(s[:min(len(s), 40)]) }

// unpacks checks what Unpack and Top answer of some bytes.
func unpacks(t *testing.T, name, b string) {
	t.Helper()
	version, s, is := master.Unpack(b)
	if v, r, f := plainUnpacked(b); version != v || s != r || is != f {
		t.Errorf("%s: Unpack: %d, %s, %v, not %d, %s, %v", name, version, told(s), is, v, told(r), f)
	}
	if top := master.Top(b); top != plainTop(b) {
		t.Errorf("%s: Top: %d, not %d", name, top, plainTop(b))
	}
}

// held is a string with its version, and the block that holds it.
type held struct {
	block   int
	version uint64
	text    string
}

// plain is a master as the chapter's Terms define it, and what its device must be like.
type plain struct {
	on        *block.Dev
	busy      bool
	now, next held
}

func plainOpened(on *block.Dev) *plain {
	p := plain{on: on.Copy()}
	for b := range 2 {
		bytes, _ := on.Read(b)
		if v, s, is := plainUnpacked(bytes); is && v > p.now.version {
			p.now = held{b, v, s}
		}
	}
	return &p
}

func (p *plain) top() uint64 {
	first, _ := p.on.Read(0)
	second, _ := p.on.Read(1)
	return max(plainTop(first), plainTop(second))
}

func (p *plain) put(s string) api.Errno {
	sectors := p.on.Size() / sector
	switch {
	case p.busy:
		return api.ErrState
	case len(s) > sectors*piece-4:
		return api.ErrLong
	case p.top() >= full:
		return api.ErrFull
	}
	p.busy, p.next = true, held{1 - p.now.block, p.top() + 1, s}
	return p.on.Write(p.next.block, plainPacked(p.next.version, s, sectors))
}

func (p *plain) sync() api.Errno {
	if !p.busy {
		return api.ErrState
	}
	p.busy, p.now = false, p.next
	return p.on.Sync()
}

// same checks all that can be seen of a master and of its device.
func (p *plain) same(t *testing.T, name string, m *master.Master, on *block.Dev) {
	t.Helper()
	if m.Data() != p.now.text || m.Version() != p.now.version || m.Busy() != p.busy {
		t.Fatalf("%s: %s, %d, %v, not %s, %d, %v", name, told(m.Data()), m.Version(), m.Busy(), told(p.now.text), p.now.version, p.busy)
	}
	sameDevice(t, name, on, p.on)
	durable, want := on.Copy(), p.on.Copy()
	durable.Crash(nil)
	want.Crash(nil)
	sameDevice(t, name+", what is durable", durable, want)
}

func sameDevice(t *testing.T, name string, got, want *block.Dev) {
	t.Helper()
	if got.Pending() != want.Pending() {
		t.Fatalf("%s: %d writes are pending, not %d", name, got.Pending(), want.Pending())
	}
	for b := range want.Blocks() {
		s, _ := got.Read(b)
		if r, _ := want.Read(b); s != r {
			t.Fatalf("%s: block %d has %x, not %x", name, b, s, r)
		}
	}
}

// puts puts a string into a master and into what it must be like.
func (p *plain) puts(t *testing.T, name string, m *master.Master, on *block.Dev, s string) {
	t.Helper()
	got := m.Put(s)
	wants(t, name+": Put "+told(s), got, p.put(s))
	p.same(t, name+": Put "+told(s), m, on)
}

func (p *plain) syncs(t *testing.T, name string, m *master.Master, on *block.Dev) {
	t.Helper()
	got := m.Sync()
	wants(t, name+": Sync", got, p.sync())
	p.same(t, name+": Sync", m, on)
}

// opened opens a device, which must have a master.
func opened(t *testing.T, name string, on *block.Dev) (*master.Master, *plain) {
	t.Helper()
	p := plainOpened(on)
	m, e := master.Open(on)
	if m == nil || e != api.OK {
		t.Fatalf("%s: Open: %v", name, e)
	}
	p.same(t, name+": Open", m, on)
	return m, p
}

// deviceOf returns a device with some durable bytes in its first blocks.
func deviceOf(t *testing.T, blocks, sectors int, bytes ...string) *block.Dev {
	t.Helper()
	on, e := block.New(blocks, sectors)
	wants(t, "New", e, api.OK)
	for b, s := range bytes {
		wants(t, "Write", on.Write(b, s), api.OK)
	}
	wants(t, "Sync", on.Sync(), api.OK)
	return on
}

func versions() []uint64 {
	return []uint64{1, 2, 255, 256, 1<<32 - 1, 1 << 32, full - 1, full, full + 1, 0x0102030405060708, math.MaxUint64}
}

// P9.1

func TestPack(t *testing.T) {
	for _, sectors := range []int{1, 2, 3, 4, 64, 65, 255, maxSectors} {
		room := sectors*piece - 4
		for _, size := range []int{0, 1, 2, 51, 52, 53, 54, 107, 108, 109, 255, 256, room / 2, room - 56, room - 1, room} {
			if size < 0 || size > room {
				continue
			}
			for _, version := range versions() {
				name := strconv.Itoa(sectors) + " sectors, " + strconv.Itoa(size) + " bytes, version " + strconv.FormatUint(version, 16)
				b, e := master.Pack(version, text(size), sectors*sector)
				wants(t, name, e, api.OK)
				if b != plainPacked(version, text(size), sectors) {
					t.Errorf("%s: %.400x", name, b)
				}
				if v, s, is := master.Unpack(b); v != version || s != text(size) || !is || master.Top(b) != version {
					t.Errorf("%s: unpacked as %d, %s, %v", name, v, told(s), is)
				}
			}
		}
	}
}

// TestPackEveryLength: no string fits that is one byte longer than 56 for each sector, less 4.
func TestPackEveryLength(t *testing.T) {
	for sectors := 1; sectors <= 3; sectors++ {
		for size := range 4 * piece {
			s := strings.Repeat("\xff", size)
			b, e := master.Pack(7, s, sectors*sector)
			if size > sectors*piece-4 {
				wants(t, strconv.Itoa(size), e, api.ErrLong)
				if b != "" {
					t.Errorf("%d bytes: %x", size, b)
				}
				continue
			}
			wants(t, strconv.Itoa(size), e, api.OK)
			if b != plainPacked(7, s, sectors) {
				t.Errorf("%d bytes in %d sectors: %x", size, sectors, b)
			}
			unpacks(t, strconv.Itoa(size), b)
		}
	}
	for sectors := 1; sectors <= maxSectors; sectors++ {
		room := sectors*piece - 4
		_, e := master.Pack(1, text(room), sectors*sector)
		wants(t, "what just fits", e, api.OK)
		_, e = master.Pack(1, text(room+1), sectors*sector)
		wants(t, "one byte more", e, api.ErrLong)
		_, e = master.Pack(1, text(100000), sectors*sector)
		wants(t, "many bytes more", e, api.ErrLong)
	}
}

func TestPackOfWrongArguments(t *testing.T) {
	long := text(1 << 15)
	sizes := []int{math.MinInt, math.MinInt + sector, math.MinInt32, -sector * 2, -sector, -sector + 1, -1, 0, 1, 8, 12, 56, 63, 65, 120, 127, 129,
		maxSectors*sector - 1, maxSectors*sector + 1, (maxSectors + 1) * sector, 2 * maxSectors * sector, 1 << 20, math.MaxInt32 - 63, math.MaxInt - 63, math.MaxInt}
	for _, size := range sizes {
		for _, version := range append(versions(), 0) {
			for _, s := range []string{"", "a", long} {
				b, e := master.Pack(version, s, size)
				wants(t, strconv.Itoa(size), e, api.ErrArg)
				if b != "" {
					t.Errorf("%d: %x", size, b)
				}
			}
		}
	}
	for _, size := range []int{sector, 2 * sector, maxSectors * sector} {
		for _, s := range []string{"", "a", long} {
			b, e := master.Pack(0, s, size)
			wants(t, "version 0", e, api.ErrArg)
			if b != "" {
				t.Errorf("version 0: %x", b)
			}
		}
	}
}

// TestUnpackOfAlteredBytes: what differs in one byte is another string's, or none's.
func TestUnpackOfAlteredBytes(t *testing.T) {
	accepted, refused := 0, 0
	for sectors := 1; sectors <= 3; sectors++ {
		for _, size := range []int{0, 1, 5, 50, 51, 52, 53, 100, 107, 108, 109, 163, 164} {
			if size > sectors*piece-4 {
				continue
			}
			packed := plainPacked(3, text(size), sectors)
			for i := range packed {
				for _, with := range []byte{1, 2, 0x80, 0xff, packed[i]} {
					b := []byte(packed)
					b[i] ^= with
					unpacks(t, strconv.Itoa(size)+" bytes, byte "+strconv.Itoa(i), string(b))
					if _, _, is := plainUnpacked(string(b)); is {
						accepted++
					} else {
						refused++
					}
				}
			}
		}
	}
	if accepted < 1000 || refused < 1000 {
		t.Error(accepted, "accepted", refused, "refused")
	}
}

// TestUnpackOfOtherSizes: only whole sectors, from 1 to 256 of them, are what Pack returns.
func TestUnpackOfOtherSizes(t *testing.T) {
	all := plainPacked(9, "a", maxSectors+4)
	for size := 0; size <= 5*sector; size++ {
		unpacks(t, strconv.Itoa(size), all[:size])
		unpacks(t, strconv.Itoa(size)+" of zeros", zeros(size))
	}
	for sectors := maxSectors - 2; sectors <= maxSectors+4; sectors++ {
		size := sectors * sector
		_, s, is := master.Unpack(all[:size])
		if is != (sectors <= maxSectors) || is != (s == "a") {
			t.Error(sectors, "sectors:", is, s)
		}
		unpacks(t, strconv.Itoa(sectors)+" sectors", all[:size])
		unpacks(t, strconv.Itoa(sectors)+" sectors less 1", all[:size-1])
	}
	unpacks(t, "much", strings.Repeat(all, 20))
}

// TestUnpackOfOtherLengths: a length that is too great, however great, is none.
func TestUnpackOfOtherLengths(t *testing.T) {
	for sectors := 1; sectors <= 3; sectors++ {
		room := uint32(sectors*piece - 4)
		for _, fill := range []string{"\x00", "x"} {
			for _, n := range []uint32{0, 1, room - 1, room, room + 1, room + 2, 1 << 8, 1 << 16, 1 << 24, 1<<31 - 1, 1 << 31, math.MaxUint32 - room, math.MaxUint32 - 3, math.MaxUint32} {
				body := length(n) + strings.Repeat(fill, int(room))
				unpacks(t, "length "+strconv.Itoa(int(n)), stamped(body, 5))
			}
		}
		unpacks(t, "version 0", stamped(length(1)+"a"+zeros(int(room)-1), 0))
		unpacks(t, "the greatest version", stamped(length(1)+"a"+zeros(int(room)-1), math.MaxUint64))
	}
}

// TestUnpackOfOtherStamps: all sectors have the same stamp, and it is not 0.
func TestUnpackOfOtherStamps(t *testing.T) {
	stamps := []uint64{0, 1, 2, 1 << 56, math.MaxUint64}
	for _, size := range []int{0, 1, 60, 164} {
		body := length(uint32(size)) + text(size) + zeros(164-size)
		for _, a := range stamps {
			for _, b := range stamps {
				for _, c := range stamps {
					packed := stamped(body, a, b, c)
					unpacks(t, "stamps", packed)
					if _, _, is := master.Unpack(packed); is != (a == b && b == c && a != 0) {
						t.Error(a, b, c, is)
					}
					if top := master.Top(packed); top != max(a, b, c) {
						t.Error(a, b, c, top)
					}
				}
			}
		}
	}
}

func TestTop(t *testing.T) {
	for size := range sector {
		if top := master.Top(strings.Repeat("\xff", size)); top != 0 {
			t.Error(size, "bytes:", top)
		}
	}
	b := stamped(zeros(2*piece), 7, 9)
	for size := range sector {
		if top := master.Top(b + strings.Repeat("\xff", size)); top != 9 {
			t.Error(size, "bytes behind them:", top)
		}
	}
	for at := range 300 {
		b := []byte(stamped(zeros(300*piece), 4))
		copy(b[at*sector:], stamp(full+uint64(at)))
		if top := master.Top(string(b)); top != full+uint64(at) {
			t.Error("sector", at, "of 300:", top)
		}
	}
}

func TestRandomBytes(t *testing.T) {
	r := rand.New(rand.NewSource(91))
	accepted := 0
	for range 20000 {
		sectors := 1 + r.Intn(4)
		room := sectors*piece - 4
		size := r.Intn(room + 3)
		body := []byte(length(uint32(size)) + text(min(size, room)) + zeros(max(room-size, 0)))
		if r.Intn(4) == 0 {
			body[r.Intn(len(body))] = byte(r.Intn(3))
		}
		stamps := []uint64{uint64(r.Intn(6))}
		for range r.Intn(3) {
			stamps = append(stamps, uint64(r.Intn(2))+stamps[0])
		}
		b := stamped(string(body), stamps...)
		if r.Intn(10) == 0 {
			b = b[:r.Intn(len(b))]
		}
		unpacks(t, "random bytes", b)
		if v, s, is := master.Unpack(b); is {
			accepted++
			if again, e := master.Pack(v, s, len(b)); again != b || e != api.OK {
				t.Fatalf("%x is packed as %x, %v", b, again, e)
			}
		}
	}
	if accepted < 2000 || accepted > 18000 {
		t.Error(accepted, "accepted")
	}
}

// P9.2

func TestOpenOfNoDevice(t *testing.T) {
	for name, on := range map[string]*block.Dev{"nil": nil, "zero": {}} {
		m, e := master.Open(on)
		wants(t, name, e, api.ErrNil)
		if m != nil {
			t.Error(name, "has a master")
		}
	}
}

func TestOpenOfOneBlock(t *testing.T) {
	for _, bytes := range []string{"", "other", plainPacked(3, "a", 2)} {
		on := deviceOf(t, 1, 2, bytes)
		before := on.Copy()
		m, e := master.Open(on)
		wants(t, "one block", e, api.ErrArg)
		if m != nil {
			t.Error("one block has a master")
		}
		sameDevice(t, "one block", on, before)
	}
}

// contents are what blocks of two sectors may have, strings or not.
func contents() []string {
	torn := plainPacked(9, text(100), 2)[:sector] + plainPacked(8, text(100), 2)[sector:]
	return []string{"", "other", strings.Repeat("\xff", 2*sector), torn, stamp(20), plainPacked(9, "short", 1),
		plainPacked(1, "", 2), plainPacked(1, "a", 2), plainPacked(2, "b", 2), plainPacked(2, text(108), 2), plainPacked(3, "", 2),
		plainPacked(8, "c", 2), plainPacked(1<<40, "d", 2), plainPacked(full, "e", 2), plainPacked(math.MaxUint64, "f", 2)}
}

// TestOpenOfContents: the greater version counts, block 0 if both have the same, and no other blocks count.
func TestOpenOfContents(t *testing.T) {
	for _, first := range contents() {
		for _, second := range contents() {
			for blocks := 2; blocks <= 4; blocks++ {
				other := plainPacked(1<<50, "other", 2)
				bytes := []string{first, second, other, other}
				opened(t, told(first)+" and "+told(second), deviceOf(t, blocks, 2, bytes[:blocks]...))
			}
		}
	}
	m, _ := opened(t, "the same version", deviceOf(t, 2, 1, plainPacked(5, "first", 1), plainPacked(5, "second", 1)))
	if m.Data() != "first" || m.Version() != 5 {
		t.Error(m.Data(), m.Version())
	}
	m, _ = opened(t, "the greater version", deviceOf(t, 2, 1, plainPacked(5, "first", 1), plainPacked(6, "second", 1)))
	if m.Data() != "second" || m.Version() != 6 {
		t.Error(m.Data(), m.Version())
	}
}

func TestOpenOfSizes(t *testing.T) {
	for _, blocks := range []int{2, 3, 1000} {
		for _, sectors := range []int{1, 2, 3} {
			opened(t, "a new device", deviceOf(t, blocks, sectors))
		}
	}
	s := text(maxSectors*piece - 4)
	on := deviceOf(t, 2, maxSectors, "", plainPacked(4, s, maxSectors))
	m, p := opened(t, "the greatest blocks", on)
	if m.Data() != s {
		t.Error(told(m.Data()))
	}
	p.puts(t, "the greatest blocks", m, on, s+"x")
	p.puts(t, "the greatest blocks", m, on, s[1:]+"x")
	p.syncs(t, "the greatest blocks", m, on)
	opened(t, "the greatest blocks again", on)
}

// TestOpenWithPendingWrites: what is visible counts, and Open does not sync.
func TestOpenWithPendingWrites(t *testing.T) {
	on := deviceOf(t, 2, 1, plainPacked(1, "a", 1))
	wants(t, "Write", on.Write(1, plainPacked(2, "b", 1)), api.OK)
	m, _ := opened(t, "a pending write", on)
	if m.Data() != "b" || m.Version() != 2 || on.Pending() != 1 {
		t.Error(m.Data(), m.Version(), on.Pending())
	}
}

func TestNone(t *testing.T) {
	for name, m := range none() {
		if m.Data() != "" || m.Version() != 0 || m.Busy() {
			t.Error(name, "has a string")
		}
		wants(t, name, m.Put("a"), api.ErrNil)
		wants(t, name, m.Put(text(1<<15)), api.ErrNil)
		wants(t, name, m.Sync(), api.ErrNil)
		if m.Data() != "" || m.Version() != 0 || m.Busy() {
			t.Error(name, "has a string now")
		}
	}
}

// P9.3

// TestPutOfContents: a string is put into the block that does not hold the master's, above all stamps, whatever the blocks have.
func TestPutOfContents(t *testing.T) {
	for _, first := range contents() {
		for _, second := range contents() {
			name := told(first) + " and " + told(second)
			on := deviceOf(t, 3, 2, first, second, plainPacked(full, "other", 2))
			m, p := opened(t, name, on)
			for _, s := range []string{text(109), "new", "newer", "", text(108)} {
				p.syncs(t, name, m, on)
				p.puts(t, name, m, on, s)
				p.puts(t, name, m, on, s)
				p.puts(t, name, m, on, text(109))
				p.syncs(t, name, m, on)
				opened(t, name, on.Copy())
			}
		}
	}
}

// TestPutOfBlock names the block and the version of what is put, for each way that they may hang on the blocks.
func TestPutOfBlock(t *testing.T) {
	a, b := plainPacked(4, "a", 1), plainPacked(6, "b", 1)
	torn := stamp(9) + "torn"
	for _, c := range []struct {
		name, first, second string
		block               int
		version             uint64
	}{
		{"new", "", "", 1, 1},
		{"block 0 alone", a, "", 1, 5},
		{"block 1 alone", "", a, 0, 5},
		{"block 0 has the greater", b, a, 1, 7},
		{"block 1 has the greater", a, b, 0, 7},
		{"the same version", a, plainPacked(4, "c", 1), 1, 5},
		{"the same string and version", a, a, 1, 5},
		{"the same string", a, plainPacked(5, "a", 1), 0, 6},
		{"block 0 is torn", torn, a, 0, 10},
		{"block 1 is torn", a, torn, 1, 10},
		{"both are torn", torn, stamp(8) + "torn", 1, 10},
		{"only one is torn", torn, "", 1, 10},
		{"only the other one is torn", "", torn, 1, 10},
	} {
		on := deviceOf(t, 2, 1, c.first, c.second)
		kept, _ := on.Read(1 - c.block)
		m, _ := opened(t, c.name, on)
		wants(t, c.name, m.Put("new"), api.OK)
		got, _ := on.Read(c.block)
		if got != plainPacked(c.version, "new", 1) {
			t.Errorf("%s: block %d has %x", c.name, c.block, got)
		}
		if other, _ := on.Read(1 - c.block); other != kept {
			t.Errorf("%s: block %d has %x", c.name, 1-c.block, other)
		}
		wants(t, c.name, m.Sync(), api.OK)
		if m.Data() != "new" || m.Version() != c.version {
			t.Error(c.name, m.Data(), m.Version())
		}
	}
}

// TestPutAbove: the top may be up to 2^63 less 1, wherever it stands.
func TestPutAbove(t *testing.T) {
	for _, top := range []uint64{full - 2, full - 1, full, full + 1, math.MaxUint64 - 1, math.MaxUint64} {
		string1 := plainPacked(top, "a", 2)
		tail := zeros(sector) + stamp(top)
		for name, bytes := range map[string][]string{
			"a string in block 0":                {string1},
			"a string in block 1":                {"", string1},
			"a sector of block 0":                {tail, plainPacked(3, "b", 2)},
			"a sector of block 1":                {plainPacked(3, "b", 2), tail},
			"a sector of the block it is put to": {"", tail},
		} {
			on := deviceOf(t, 2, 2, bytes...)
			m, p := opened(t, name, on)
			p.puts(t, name, m, on, text(109))
			got := m.Put("c")
			wants(t, name, got, p.put("c"))
			p.same(t, name, m, on)
			if want := api.ErrFull; top >= full {
				wants(t, name, got, want)
			} else {
				wants(t, name, got, api.OK)
			}
			p.syncs(t, name, m, on)
			p.puts(t, name, m, on, "d")
			p.puts(t, name, m, on, "e")
			p.syncs(t, name, m, on)
			p.puts(t, name, m, on, "f")
		}
	}
}

// TestErrorsOfPut: a string that is being written comes ahead of one that is too long, and that ahead of a full master.
func TestErrorsOfPut(t *testing.T) {
	on := deviceOf(t, 2, 1, plainPacked(full-1, "a", 1))
	m, _ := opened(t, "almost full", on)
	long := text(53)
	wants(t, "too long", m.Put(long), api.ErrLong)
	wants(t, "the last one", m.Put("b"), api.OK)
	wants(t, "busy", m.Put("c"), api.ErrState)
	wants(t, "busy and too long", m.Put(long), api.ErrState)
	wants(t, "sync", m.Sync(), api.OK)
	wants(t, "full", m.Put("c"), api.ErrFull)
	wants(t, "full and too long", m.Put(long), api.ErrLong)
	wants(t, "nothing is written", m.Sync(), api.ErrState)
	if m.Data() != "b" || m.Version() != full || m.Busy() {
		t.Error(m.Data(), m.Version(), m.Busy())
	}
}

// TestSyncOfDevice: Sync makes what was put durable, and a refused one leaves the device as it is.
func TestSyncOfDevice(t *testing.T) {
	on := deviceOf(t, 3, 1)
	m, p := opened(t, "new", on)
	p.syncs(t, "nothing is written", m, on)
	p.puts(t, "new", m, on, "a")
	if on.Pending() != 1 {
		t.Error(on.Pending(), "writes are pending")
	}
	p.syncs(t, "the first", m, on)
	if on.Pending() != 0 {
		t.Error(on.Pending(), "writes are pending")
	}
	on.Crash(nil)
	opened(t, "after a crash", on)
	p.syncs(t, "nothing is written again", m, on)
}

// TestMastersApart: masters of two devices have nothing in common.
func TestMastersApart(t *testing.T) {
	first, second := deviceOf(t, 2, 1), deviceOf(t, 2, 1)
	m, p := opened(t, "first", first)
	n, q := opened(t, "second", second)
	p.puts(t, "first", m, first, "a")
	q.same(t, "second", n, second)
	q.puts(t, "second", n, second, "b")
	q.syncs(t, "second", n, second)
	p.same(t, "first", m, first)
	p.syncs(t, "first", m, first)
	q.same(t, "second", n, second)
}

// TestRandomCalls holds masters against the Terms, also after crashes that keep some sectors.
func TestRandomCalls(t *testing.T) {
	r := rand.New(rand.NewSource(92))
	for range 300 {
		sectors := 1 + r.Intn(4)
		on := deviceOf(t, 2+r.Intn(2), sectors)
		m, p := opened(t, "new", on)
		for range 40 {
			switch r.Intn(6) {
			case 0, 1, 2:
				p.puts(t, "random", m, on, text(r.Intn(sectors*piece)))
			case 3, 4:
				p.syncs(t, "random", m, on)
			default:
				keep := []uint64{r.Uint64() & r.Uint64()}
				on.Crash(keep)
				p.on.Crash(keep)
				m, p = opened(t, "random", on)
			}
		}
	}
}

// P9.4

// crashes tries all ways in which a device may lose its power, a number of times one after the other, each time while a string is being written.
func crashes(t *testing.T, name string, on *block.Dev, deep int) {
	m, _ := opened(t, name, on)
	before, version := m.Data(), m.Version()
	next := name + text(deep*17%(on.Size()/sector*piece-4-len(name)))
	wants(t, name, m.Put(next), api.OK)
	sectors := on.Size() / sector
	for keep := range uint64(1) << sectors {
		left := on.Copy()
		left.Crash([]uint64{keep})
		after, _ := opened(t, name, left)
		is := after.Data() == before && after.Version() == version
		was := after.Data() == next && after.Version() > version
		if !is && !was || keep == 0 && !is || keep+1 == 1<<sectors && !was {
			t.Fatalf("%s: keeping %b of %s ahead of %s: %s", name, keep, told(next), told(before), told(after.Data()))
		}
		if deep > 1 {
			crashes(t, name+strconv.Itoa(int(keep)), left, deep-1)
		}
	}
	wants(t, name, m.Sync(), api.OK)
	on.Crash([]uint64{math.MaxUint64})
	if synced, _ := opened(t, name, on); synced.Data() != next {
		t.Fatalf("%s: %s was synced, but is %s", name, told(next), told(synced.Data()))
	}
}

func TestCrashes(t *testing.T) {
	crashes(t, "a", deviceOf(t, 2, 1), 6)
	crashes(t, "b", deviceOf(t, 2, 2), 5)
	crashes(t, "c", deviceOf(t, 2, 3), 3)
	crashes(t, "d", deviceOf(t, 3, 4), 2)
	crashes(t, "e", deviceOf(t, 2, 2, plainPacked(1, "one", 2), plainPacked(1, "the other", 2)), 4)
	crashes(t, "f", deviceOf(t, 2, 2, strings.Repeat("\x01", 2*sector), strings.Repeat("\x02", 2*sector)), 4)
}

// TestCrashWithoutPut: a power loss while nothing is written changes nothing.
func TestCrashWithoutPut(t *testing.T) {
	on := deviceOf(t, 2, 2)
	for i := range 9 {
		m, p := opened(t, "again", on)
		p.puts(t, "again", m, on, text(i))
		p.syncs(t, "again", m, on)
		for _, keep := range [][]uint64{nil, {}, {0}, {math.MaxUint64}, {1, 2, 3}} {
			on.Crash(keep)
			if after, _ := opened(t, "a crash", on); after.Data() != text(i) || after.Version() != uint64(i)+1 {
				t.Fatal(i, after.Data(), after.Version())
			}
		}
	}
}

// TestManyCrashes: torn strings on top of each other never make up one.
func TestManyCrashes(t *testing.T) {
	r := rand.New(rand.NewSource(94))
	for range 100 {
		sectors := 1 + r.Intn(9)
		on := deviceOf(t, 2, sectors)
		now := ""
		for range 60 {
			m, _ := opened(t, "many", on)
			if m.Data() != now {
				t.Fatalf("%s was kept, not %s", told(m.Data()), told(now))
			}
			next := strconv.Itoa(r.Intn(1000)) + text(r.Intn(sectors*piece-7))
			wants(t, "many", m.Put(next), api.OK)
			if r.Intn(5) == 0 {
				wants(t, "many", m.Sync(), api.OK)
				now = next
			}
			keep := r.Uint64() | r.Uint64()
			on.Crash([]uint64{keep})
			after, e := master.Open(on)
			wants(t, "many", e, api.OK)
			if s := after.Data(); s != now && s != next {
				t.Fatalf("%s is kept, neither %s nor %s", told(s), told(now), told(next))
			}
			now = after.Data()
		}
	}
}

// P9.5

// TestSectorsOfDifferentVersions mixes the sectors of three strings in all ways.
func TestSectorsOfDifferentVersions(t *testing.T) {
	const sectors = 4
	for _, size := range []int{0, 1, 52, 53, 108, 109, 164, 220} {
		for _, versions := range [][3]uint64{{1, 2, 3}, {1, 1 << 8, 1 << 56}, {full, full + 1, math.MaxUint64}} {
			var packed [3]string
			for i, v := range versions {
				b, e := master.Pack(v, text(size), sectors*sector)
				wants(t, "Pack", e, api.OK)
				packed[i] = b
			}
			for mix := range 3 * 3 * 3 * 3 {
				b, alike := "", true
				for i := range sectors {
					from := mix % 3
					mix /= 3
					b += packed[from][i*sector : (i+1)*sector]
					alike = alike && b[:8] == stamp(versions[from])
				}
				if _, _, is := master.Unpack(b); is != alike {
					t.Errorf("%d bytes, versions %d: %v, not %v", size, versions, is, alike)
				}
			}
		}
	}
}

// TestSectorsOfDifferentSizes: it does not matter how many sectors the strings were packed into, or which of them are taken.
func TestSectorsOfDifferentSizes(t *testing.T) {
	r := rand.New(rand.NewSource(95))
	for range 20000 {
		b, first, alike := "", uint64(0), true
		for range 2 + r.Intn(3) {
			version, sectors := 1+uint64(r.Intn(4)), 1+r.Intn(5)
			packed, e := master.Pack(version, text(r.Intn(sectors*piece-3)), sectors*sector)
			wants(t, "Pack", e, api.OK)
			at := r.Intn(sectors) * sector
			b += packed[at : at+sector]
			if first == 0 {
				first = version
			}
			alike = alike && version == first
		}
		if _, _, is := master.Unpack(b); is && !alike {
			t.Fatalf("%x is a packed string", b)
		}
		unpacks(t, "mixed", b)
	}
}

// The chapter's table

func TestExamples(t *testing.T) {
	packed, e := master.Pack(1, "a", 64)
	if packed != "\x00\x00\x00\x00\x00\x00\x00\x01"+"\x00\x00\x00\x01a"+zeros(51) || e != api.OK {
		t.Errorf("%x, %v", packed, e)
	}
	on := deviceOf(t, 2, 1)
	m, e := master.Open(on)
	wants(t, "Open", e, api.OK)
	holds := func(s string, version uint64) {
		t.Helper()
		if m.Data() != s || m.Version() != version {
			t.Errorf("%q, %d, not %q, %d", m.Data(), m.Version(), s, version)
		}
	}
	holds("", 0)
	wants(t, "Put(a)", m.Put("a"), api.OK)
	holds("", 0)
	wants(t, "Sync", m.Sync(), api.OK)
	holds("a", 1)
	wants(t, "Put(b)", m.Put("b"), api.OK)
	wants(t, "Put(c)", m.Put("c"), api.ErrState)
	on.Crash(nil)
	m, e = master.Open(on)
	wants(t, "Open", e, api.OK)
	holds("a", 1)
	wants(t, "Put(53 bytes)", m.Put(text(53)), api.ErrLong)
	wants(t, "Put(52 bytes)", m.Put(text(52)), api.OK)
}

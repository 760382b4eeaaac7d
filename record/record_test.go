package record_test

import (
	"encoding/binary"
	"hash/crc32"
	"math"
	"math/bits"
	"math/rand"
	"slices"
	"strconv"
	"strings"
	"testing"

	"lockkeeper/api"
	"lockkeeper/record"
)

const (
	headerSize = 9
	overhead   = 13
)

func wants(t *testing.T, name string, got, want api.Errno) {
	t.Helper()
	if got != want {
		t.Errorf("%s: %v, not %v", name, got, want)
	}
}

// put returns records written by Put, which must take them.
func put(t *testing.T, l ...api.Record) string {
	t.Helper()
	s, e := record.Put(l)
	if e != api.OK {
		t.Fatalf("Put: %v", e)
	}
	return s
}

// scans checks what Scan finds in s.
func scans(t *testing.T, name, s string, l []api.Record, taken int, state api.State) {
	t.Helper()
	gotList, gotTaken, gotState := record.Scan(s)
	if !slices.Equal(gotList, l) || gotTaken != taken || gotState != state {
		t.Fatalf("%s: %d records, %d, %d, not %d records, %d, %d",
			name, len(gotList), gotTaken, gotState, len(l), taken, state)
	}
}

// plainSealed and the other plain functions are the chapter's Terms, with the library's checksum.
func plainSealed(s string) string {
	sum := crc32.Checksum([]byte(s), crc32.MakeTable(crc32.Castagnoli))
	return s + string(binary.LittleEndian.AppendUint32(nil, sum))
}

// plainHeader is that of a body of any length, also of one that no record has.
func plainHeader(kind uint8, length uint32) string {
	return plainSealed(string(binary.BigEndian.AppendUint32([]byte{kind}, length)))
}

func plainWritten(l ...api.Record) string {
	var all strings.Builder
	for _, r := range l {
		all.WriteString(plainHeader(r.Kind, uint32(len(r.Data))) + plainSealed(r.Data))
	}
	return all.String()
}

// plainOpens reports whether s is sealed bytes.
func plainOpens(s string) bool { return len(s) >= 4 && plainSealed(s[:len(s)-4]) == s }

// plainState is that of a rest, in the order of the chapter's sentences.
func plainState(rest string) api.State {
	switch {
	case rest == "":
		return api.StateWhole
	case len(rest) < headerSize:
		return api.StateTorn
	case !plainOpens(rest[:headerSize]):
		return api.StateBad
	}
	length := int64(binary.BigEndian.Uint32([]byte(rest[1:5])))
	switch {
	case length > 262144:
		return api.StateBad
	case headerSize+length+4 > int64(len(rest)):
		return api.StateTorn
	}
	return api.StateBad
}

// plainScan takes a record as complete if writing it again gives the bytes that are there.
func plainScan(s string) ([]api.Record, int, api.State) {
	var l []api.Record
	taken := 0
	for {
		rest := s[taken:]
		if len(rest) < overhead {
			return l, taken, plainState(rest)
		}
		length := int64(binary.BigEndian.Uint32([]byte(rest[1:5])))
		if length > 262144 || overhead+length > int64(len(rest)) {
			return l, taken, plainState(rest)
		}
		r := api.Record{Kind: rest[0], Data: rest[headerSize : headerSize+length]}
		if !strings.HasPrefix(rest, plainWritten(r)) {
			return l, taken, plainState(rest)
		}
		l = append(l, r)
		taken += overhead + int(length)
	}
}

// scansAsPlain checks Scan against the chapter's Terms.
func scansAsPlain(t *testing.T, name, s string) {
	t.Helper()
	l, taken, state := plainScan(s)
	scans(t, name, s, l, taken, state)
}

func someText(rng *rand.Rand, size int) string {
	b := make([]byte, size)
	rng.Read(b)
	return string(b)
}

func someRecords(rng *rand.Rand, most int) []api.Record {
	var l []api.Record
	for range rng.Intn(most + 1) {
		l = append(l, api.Record{Kind: uint8(rng.Intn(256)), Data: someText(rng, rng.Intn(20))})
	}
	return l
}

// sizes are those at which a length takes another byte, or is too long.
var sizes = []int{0, 1, 2, 3, 4, 8, 9, 12, 13, 14, 127, 128, 255, 256, 257, 65535, 65536, 65537, 262143, 262144}

// lists are records of all kinds and of many sizes, alone and together.
func lists() map[string][]api.Record {
	rng := rand.New(rand.NewSource(7))
	all := map[string][]api.Record{
		"nil":            nil,
		"none":           {},
		"zero":           {{}},
		"two zero":       {{}, {}},
		"one":            {{Kind: 7, Data: "ab"}},
		"twice the same": {{Kind: 7, Data: "ab"}, {Kind: 7, Data: "ab"}},
		"bytes 0":        {{Data: strings.Repeat("\x00", 13)}, {Kind: 1}},
		"bytes 255":      {{Kind: 255, Data: strings.Repeat("\xff", 13)}},
		"a record in a record": {
			{Kind: 2, Data: plainWritten(api.Record{Kind: 3, Data: "c"})},
			{Kind: 4, Data: plainHeader(5, 6)},
		},
	}
	for kind := range 256 {
		all["kind "+strconv.Itoa(kind)] = []api.Record{{Kind: uint8(kind), Data: "x"}}
	}
	var of []api.Record
	for _, size := range sizes {
		r := api.Record{Kind: uint8(size), Data: someText(rng, size)}
		all["size "+strconv.Itoa(size)] = []api.Record{r}
		of = append(of, r)
	}
	all["all sizes"] = of
	for i := range 50 {
		all["some "+strconv.Itoa(i)] = someRecords(rng, 6)
	}
	return all
}

// P7.1

func TestPut(t *testing.T) {
	for name, l := range lists() {
		before := slices.Clone(l)
		s, e := record.Put(l)
		wants(t, name, e, api.OK)
		if s != plainWritten(l...) {
			t.Errorf("%s: %d other bytes", name, len(s))
		}
		if !slices.Equal(l, before) {
			t.Errorf("%s: the records were changed", name)
		}
	}
}

// TestPutByHand: bytes that were worked out from the Terms without this program, or the library's checksum.
func TestPutByHand(t *testing.T) {
	s := put(t, api.Record{Kind: 49, Data: "123456789"})
	if s[:5] != "1\x00\x00\x00\x09" || s[headerSize:] != "123456789\x83\x92\x06\xe3" {
		t.Errorf("%q", s)
	}
	// The checksum of four bytes 0 is 48674bc7, and of no bytes 0.
	s = put(t, api.Record{Data: "\x00\x00\x00\x00"}, api.Record{})
	if s[headerSize:17] != "\x00\x00\x00\x00\xc7\x4b\x67\x48" || s[26:] != "\x00\x00\x00\x00" {
		t.Errorf("%q", s)
	}
}

func TestPutOfTooLong(t *testing.T) {
	longest := api.Record{Data: strings.Repeat("a", 262144)}
	for _, more := range []int{1, 2, 13, 262144, 1<<24 - 262144} {
		long := api.Record{Kind: 1, Data: longest.Data + strings.Repeat("a", more)}
		for name, l := range map[string][]api.Record{
			"alone":                  {long},
			"first":                  {long, {}, {}},
			"in the middle":          {{}, long, {}},
			"last":                   {{}, {}, long},
			"twice":                  {long, long},
			"behind the longest":     {longest, long},
			"ahead of the longest":   {long, longest},
			"behind some of no Data": {{}, {}, {}, {}, {}, {}, {}, {}, long},
		} {
			s, e := record.Put(l)
			wants(t, name, e, api.ErrLong)
			if s != "" {
				t.Errorf("%s: %d bytes with an error", name, len(s))
			}
		}
	}
	// The limit is that of each record, not of all of them.
	if s := put(t, longest, longest, longest); len(s) != 3*(262144+overhead) {
		t.Error(len(s))
	}
}

// P7.2

func TestScan(t *testing.T) {
	for name, l := range lists() {
		s := plainWritten(l...)
		scans(t, name, s, l, len(s), api.StateWhole)
	}
}

func TestScanOfNothing(t *testing.T) {
	scans(t, "nothing", "", nil, 0, api.StateWhole)
}

// TestScanOfEachBeginning: what is there of a record that is not complete is torn.
func TestScanOfEachBeginning(t *testing.T) {
	l := []api.Record{{Kind: 7, Data: "ab"}, {Kind: 1}, {Kind: 255, Data: strings.Repeat("\xff", 30)}, {}}
	s := plainWritten(l...)
	ends := []int{0, 15, 28, 71, 84}
	for size := range len(s) + 1 {
		complete := 0
		for ends[complete] < size && ends[complete+1] <= size {
			complete++
		}
		state := api.StateTorn
		if ends[complete] == size {
			state = api.StateWhole
		}
		scans(t, strconv.Itoa(size), s[:size], l[:complete], ends[complete], state)
		scansAsPlain(t, strconv.Itoa(size), s[:size])
	}
}

// TestFewerThanNineBytes: they are torn whatever they are.
func TestFewerThanNineBytes(t *testing.T) {
	rng := rand.New(rand.NewSource(1))
	one := plainWritten(api.Record{Kind: 7, Data: "ab"})
	for size := 1; size < headerSize; size++ {
		for _, s := range []string{
			strings.Repeat("\x00", size),
			strings.Repeat("\xff", size),
			plainHeader(0, 0)[:size],
			plainHeader(1, 262145)[:size],
			someText(rng, size),
		} {
			scans(t, strconv.Quote(s), s, nil, 0, api.StateTorn)
			scans(t, "one and "+strconv.Quote(s), one+s, []api.Record{{Kind: 7, Data: "ab"}}, 15, api.StateTorn)
		}
	}
	for a := range 256 {
		for b := range 256 {
			s := string([]byte{byte(a), byte(b)})
			scans(t, strconv.Quote(s), s, nil, 0, api.StateTorn)
		}
	}
}

// TestHeaderThatDoesNotOpen: it is bad, whatever it says, and whatever is behind it.
func TestHeaderThatDoesNotOpen(t *testing.T) {
	for _, header := range []string{plainHeader(7, 2), plainHeader(0, 0), plainHeader(0, 262144), plainHeader(9, 262145)} {
		for place := range headerSize {
			for change := 1; change < 256; change++ {
				b := []byte(header)
				b[place] ^= byte(change)
				for _, behind := range []string{"", "a", "ab", plainSealed("ab"), plainSealed(""), plainWritten(api.Record{})} {
					scans(t, strconv.Quote(string(b)), string(b)+behind, nil, 0, api.StateBad)
				}
			}
		}
	}
}

// TestLengths: a sealed header's length that no record has makes the rest bad, even if all bytes are there that it asks for.
func TestLengths(t *testing.T) {
	for _, length := range []uint32{262145, 262146, 1 << 19, 1 << 24, math.MaxInt32 - 13, math.MaxInt32 - 12, math.MaxInt32, 1 << 31, math.MaxUint32 - 13, math.MaxUint32 - 3, math.MaxUint32} {
		name := strconv.Itoa(int(length))
		scans(t, name, plainHeader(1, length), nil, 0, api.StateBad)
		scans(t, name, plainHeader(1, length)+"abcd", nil, 0, api.StateBad)
	}
	for _, length := range []uint32{262145, 262146, 1 << 19} {
		s := plainHeader(1, length) + plainSealed(strings.Repeat("a", int(length)))
		scans(t, strconv.Itoa(int(length)), s, nil, 0, api.StateBad)
	}
	for _, length := range sizes {
		name := strconv.Itoa(length)
		header, body := plainHeader(1, uint32(length)), plainSealed(strings.Repeat("a", length))
		scans(t, name, header, nil, 0, api.StateTorn)
		scans(t, name+" and one byte", header+body[:1], nil, 0, api.StateTorn)
		scans(t, name+" but one byte", header+body[:length+3], nil, 0, api.StateTorn)
		scans(t, name+" and all", header+body, []api.Record{{Kind: 1, Data: strings.Repeat("a", length)}}, length+overhead, api.StateWhole)
	}
}

// TestBodyThatDoesNotOpen: it is torn until all of it is there, and then it is bad.
func TestBodyThatDoesNotOpen(t *testing.T) {
	for _, data := range []string{"", "a", "ab", "123456789"} {
		header, body := plainHeader(3, uint32(len(data))), plainSealed(data)
		for place := range body {
			for change := 1; change < 256; change++ {
				b := []byte(body)
				b[place] ^= byte(change)
				name := strconv.Quote(string(b))
				scans(t, name, header+string(b), nil, 0, api.StateBad)
				scans(t, name, header+string(b)+"abc", nil, 0, api.StateBad)
				scans(t, name, header+string(b[:len(b)-1]), nil, 0, api.StateTorn)
			}
		}
	}
}

// TestNothingBehindTheRest: complete records behind a torn or bad one are not looked for.
func TestNothingBehindTheRest(t *testing.T) {
	a, b := api.Record{Kind: 1, Data: "a"}, api.Record{Kind: 2, Data: "bb"}
	one, two := plainWritten(a), plainWritten(b)
	scans(t, "nine bytes between", one+"123456789"+two, []api.Record{a}, len(one), api.StateBad)
	scans(t, "a byte too many", one+"x"+two, []api.Record{a}, len(one), api.StateBad)
	scans(t, "a byte too few", one[:len(one)-1]+two, nil, 0, api.StateBad)
	scans(t, "a long one cut", plainHeader(3, 1000)+two+one, nil, 0, api.StateTorn)
}

// someBytes are pieces of records, some of them changed, one after the other.
func someBytes(rng *rand.Rand) string {
	var all strings.Builder
	for range rng.Intn(6) {
		s := plainWritten(someRecords(rng, 2)...)
		switch rng.Intn(8) {
		case 0:
			s = s[:rng.Intn(len(s)+1)]
		case 1:
			s = s[rng.Intn(len(s)+1):]
		case 2:
			s = changed(rng, s)
		case 3:
			s = someText(rng, rng.Intn(12))
		case 4:
			s = plainHeader(uint8(rng.Intn(256)), rng.Uint32()>>rng.Intn(32)) + s
		}
		all.WriteString(s)
	}
	return all.String()
}

// changed is s with a byte of it replaced.
func changed(rng *rand.Rand, s string) string {
	b := []byte(s)
	if len(b) > 0 {
		b[rng.Intn(len(b))] = byte(rng.Intn(256))
	}
	return string(b)
}

func TestAgainstPlain(t *testing.T) {
	rng := rand.New(rand.NewSource(2))
	seen := map[api.State]int{}
	for i := range 20000 {
		s := someBytes(rng)
		scansAsPlain(t, strconv.Itoa(i)+": "+strconv.Quote(s), s)
		_, _, state := record.Scan(s)
		seen[state]++
	}
	for _, state := range []api.State{api.StateWhole, api.StateTorn, api.StateBad} {
		if seen[state] < 1000 {
			t.Errorf("the state %d was seen but %d times", state, seen[state])
		}
	}
}

// TestMany: what is behind a record is not gone through anew for each.
func TestMany(t *testing.T) {
	var l []api.Record
	for i := range 300000 {
		l = append(l, api.Record{Kind: uint8(i), Data: strconv.Itoa(i)})
	}
	s := put(t, l...)
	scans(t, "many", s, l, len(s), api.StateWhole)
	scans(t, "many but one byte", s[:len(s)-1], l[:len(l)-1], len(s)-overhead-6, api.StateTorn)
}

// TestListsAreApart: a list that was returned is the caller's.
func TestListsAreApart(t *testing.T) {
	a, b := api.Record{Kind: 1, Data: "a"}, api.Record{Kind: 2, Data: "b"}
	s := plainWritten(a, b)
	got, _, _ := record.Scan(s)
	other, _, _ := record.Scan(s)
	got = append(got[:1], api.Record{Kind: 9})
	got[0].Data = "changed"
	scans(t, "anew", s, []api.Record{a, b}, len(s), api.StateWhole)
	if !slices.Equal(other, []api.Record{a, b}) {
		t.Error("lists share memory")
	}
}

// P7.3

// rests are what may follow complete records.
func rests() []string {
	one := plainWritten(api.Record{Kind: 7, Data: "ab"})
	rng := rand.New(rand.NewSource(3))
	all := []string{"", "1", "12345678", "123456789", one, one[1:], plainHeader(1, 262144), plainHeader(1, 262145), plainHeader(1, 0) + "abcd"}
	for size := range one {
		all = append(all, one[:size])
	}
	for range 100 {
		all = append(all, someBytes(rng))
	}
	return all
}

func TestScanContinues(t *testing.T) {
	for name, l := range lists() {
		if len(l) == len(sizes) || strings.HasPrefix(name, "kind ") {
			continue
		}
		s := put(t, l...)
		for _, rest := range rests() {
			more, taken, state := record.Scan(rest)
			scans(t, name+" and "+strconv.Quote(rest), s+rest, slices.Concat(l, more), len(s)+taken, state)
		}
	}
}

// TestTornYields: records are returned as soon as their bytes are there.
func TestTornYields(t *testing.T) {
	rng := rand.New(rand.NewSource(4))
	for i := range 60 {
		l := append(someRecords(rng, 4), api.Record{Kind: uint8(i), Data: someText(rng, i)})
		s := put(t, l...)
		for size := range s {
			if _, _, state := record.Scan(s[:size]); state == api.StateBad {
				t.Fatalf("%d: the first %d bytes are bad", i, size)
			}
			scans(t, strconv.Itoa(size)+" and the missing", s[:size]+s[size:], l, len(s), api.StateWhole)
		}
	}
	long := api.Record{Kind: 1, Data: strings.Repeat("a", 262144)}
	s := put(t, long)
	for _, size := range []int{8, 9, 10, 100000, len(s) - 4, len(s) - 1} {
		scans(t, strconv.Itoa(size), s[:size], nil, 0, api.StateTorn)
	}
	scans(t, "the longest", s, []api.Record{long}, len(s), api.StateWhole)
}

// TestBadNeverYields: whatever is appended, what was found stays as it was.
func TestBadNeverYields(t *testing.T) {
	rng := rand.New(rand.NewSource(5))
	bad := 0
	for _, s := range rests() {
		l, taken, state := record.Scan(s)
		if state != api.StateBad {
			continue
		}
		bad++
		for _, more := range rests() {
			scans(t, strconv.Quote(s)+" and "+strconv.Quote(more), s+more, l, taken, api.StateBad)
		}
		scans(t, "and much more", s+someText(rng, 300000), l, taken, api.StateBad)
	}
	if bad < 20 {
		t.Error("only", bad, "were bad")
	}
	// Not even if the body follows that the header asks for.
	s := plainHeader(1, 262145)
	scans(t, "a body of too many bytes", s+plainSealed(strings.Repeat("a", 262145)), nil, 0, api.StateBad)
}

// P7.4

func TestEachTakesThirteenBytesMore(t *testing.T) {
	for name, l := range lists() {
		size := 0
		for _, r := range l {
			size += len(r.Data) + 13
		}
		if s := put(t, l...); len(s) != size {
			t.Errorf("%s: %d bytes, not %d", name, len(s), size)
		}
	}
}

// inverted returns s with up to 32 bits inverted from a place on, counted from the lowest bit of the first byte on; false if they are not all there.
func inverted(s string, place int, change uint32) (string, bool) {
	if place+bits.Len32(change) > 8*len(s) {
		return "", false
	}
	b := []byte(s)
	for i := range 32 {
		if change>>i&1 == 1 {
			b[(place+i)/8] ^= 1 << ((place + i) % 8)
		}
	}
	return string(b), true
}

// TestBitsWithinASpanInverted: also where the span lies in a header and in its body.
func TestBitsWithinASpanInverted(t *testing.T) {
	rng := rand.New(rand.NewSource(6))
	a, b := api.Record{Kind: 1, Data: "first"}, api.Record{Kind: 2, Data: "second"}
	for _, r := range []api.Record{{}, {Kind: 7, Data: "ab"}, {Kind: 255, Data: "123456789"}} {
		ahead, s, behind := put(t, a), put(t, r), put(t, b)
		for place := range 8 * len(s) {
			changes := []uint32{1, 3, 0x80000001, math.MaxUint32, 0x00010001}
			for range 40 {
				changes = append(changes, rng.Uint32()>>rng.Intn(31)|1)
			}
			for _, change := range changes {
				wrong, fits := inverted(s, place, change)
				if !fits {
					continue
				}
				name := strconv.Itoa(place) + " " + strconv.Itoa(int(change))
				scans(t, name, ahead+wrong, []api.Record{a}, len(ahead), api.StateBad)
				scans(t, name+" and one more", ahead+wrong+behind, []api.Record{a}, len(ahead), api.StateBad)
			}
		}
	}
}

// TestBitsInvertedAndBytesMissing: no record is returned either.
func TestBitsInvertedAndBytesMissing(t *testing.T) {
	rng := rand.New(rand.NewSource(8))
	s := put(t, api.Record{Kind: 7, Data: "abcdef"})
	for range 20000 {
		wrong, fits := inverted(s, rng.Intn(8*len(s)), rng.Uint32()>>rng.Intn(32)|1)
		if !fits {
			continue
		}
		wrong = wrong[:rng.Intn(len(s))]
		if l, taken, _ := record.Scan(wrong); len(l) > 0 || taken != 0 {
			t.Fatalf("%q: %d records, %d", wrong, len(l), taken)
		}
		scansAsPlain(t, strconv.Quote(wrong), wrong)
	}
}

// The chapter's examples.

func TestExamples(t *testing.T) {
	r := api.Record{Kind: 7, Data: "ab"}
	one, two := put(t, r), put(t, r, r)
	if len(one) != 15 || len(two) != 30 {
		t.Error(len(one), len(two))
	}
	scans(t, "one and its first eight bytes", one+one[:8], []api.Record{r}, 15, api.StateTorn)
	scans(t, "one and its first nine bytes", one+one[:9], []api.Record{r}, 15, api.StateTorn)
	scans(t, "nine bytes 0", strings.Repeat("\x00", 9), nil, 0, api.StateBad)
	scans(t, "nothing", "", nil, 0, api.StateWhole)
}

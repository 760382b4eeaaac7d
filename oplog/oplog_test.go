package oplog_test

import (
	"math"
	"math/rand"
	"strings"
	"testing"

	"lockkeeper/api"
	"lockkeeper/oplog"
	"lockkeeper/tape"
	"lockkeeper/wal"
)

const insertBytes = "\x00\x00\x00\x00\x00\x00\x00\x03" + "\x00\x00\x00\x00\x00\x00\x00\x00" + "\x00\x01k" + "\x00\x01" + "\x00\x00" + "\x00\x01v"

func TestExamples(t *testing.T) {
	insert := api.Log{Kind: op, Tx: 3, Key: "k", Has: true, New: "v"}
	for want, l := range map[string]api.Log{
		"\x00\x00\x00\x00\x00\x00\x00\x03": {Kind: commit, Tx: 3},
		insertBytes:                        insert,
	} {
		if s, e := oplog.Put(l); s != want || e != api.OK {
			t.Errorf("Put of %s: %x %v", told(l), s, e)
		}
	}
	if o, is := oplog.Op(9, insert); o != (api.Op{Lsn: 9, Key: "k", Value: "v"}) || !is {
		t.Error(o, is)
	}
	if l, is := oplog.Back(insert); l != (api.Log{Kind: undo, Tx: 3, Key: "k"}) || !is {
		t.Error(told(l), is)
	}
	if n := oplog.Cost(api.Log{Kind: commit, Tx: 3}); n != 29 {
		t.Error(n)
	}
	if n := oplog.Cost(insert); n != 47+46 {
		t.Error(n)
	}
}

// P24.1: which records are valid, their bytes, and what is read from bytes.

func TestCheckByName(t *testing.T) {
	for what, l := range map[string]api.Log{
		"the greatest numbers":               {Kind: op, Tx: maxLsn, Prev: maxLsn, Key: "k", Has: true},
		"the longest texts":                  {Kind: op, Tx: 1, Key: long(512), Had: true, Old: long(2048), Has: true, New: long(2048)},
		"an empty value is one":              {Kind: op, Tx: 1, Key: "k", Had: true},
		"nothing changes":                    {Kind: op, Tx: 1, Key: "k", Had: true, Old: "v", Has: true, New: "v"},
		"a key of a byte 0":                  {Kind: op, Tx: 1, Key: "\x00", Has: true},
		"Prev above Tx":                      {Kind: op, Tx: 1, Prev: 7, Key: "k", Has: true},
		"a compensation that takes away":     {Kind: undo, Tx: 1, Key: "k"},
		"the greatest compensation":          {Kind: undo, Tx: maxLsn, Prev: maxLsn, Key: long(512), Has: true, New: long(2048)},
		"the least commit":                   {Kind: commit, Tx: 1},
		"the greatest commit":                {Kind: commit, Tx: maxLsn},
		"the least end":                      {Kind: end, Tx: 1},
		"the greatest end":                   {Kind: end, Tx: maxLsn},
		"a compensation with an empty value": {Kind: undo, Tx: 1, Key: "k", Has: true},
	} {
		if e := oplog.Check(l); e != api.OK {
			t.Error(what, e)
		}
	}
	for what, l := range map[string]api.Log{
		"nothing":                                {},
		"kind 0":                                 {Tx: 1},
		"kind 0 with a key":                      {Tx: 1, Key: "k", Has: true},
		"kind 5":                                 {Kind: 5, Tx: 1},
		"kind 5 with a key":                      {Kind: 5, Tx: 1, Key: "k", Has: true},
		"kind 255":                               {Kind: 255, Tx: 1},
		"an operation of no transaction":         {Kind: op, Key: "k", Has: true},
		"a compensation of no transaction":       {Kind: undo, Key: "k", Has: true},
		"a commit of no transaction":             {Kind: commit},
		"an end of no transaction":               {Kind: end},
		"Tx too great":                           {Kind: op, Tx: maxLsn + 1, Key: "k", Has: true},
		"Tx too great for a commit":              {Kind: commit, Tx: maxLsn + 1},
		"the greatest Tx of all":                 {Kind: end, Tx: math.MaxUint64},
		"Prev too great":                         {Kind: op, Tx: 1, Prev: maxLsn + 1, Key: "k", Has: true},
		"Prev too great for a compensation":      {Kind: undo, Tx: 1, Prev: math.MaxUint64, Key: "k", Has: true},
		"no key":                                 {Kind: op, Tx: 1, Has: true},
		"no key to undo":                         {Kind: undo, Tx: 1, Has: true},
		"a key too long":                         {Kind: op, Tx: 1, Key: long(513), Has: true},
		"a key too long to undo":                 {Kind: undo, Tx: 1, Key: long(513), Has: true},
		"Old too long":                           {Kind: op, Tx: 1, Key: "k", Had: true, Old: long(2049)},
		"New too long":                           {Kind: op, Tx: 1, Key: "k", Has: true, New: long(2049)},
		"New too long to undo":                   {Kind: undo, Tx: 1, Key: "k", Has: true, New: long(2049)},
		"Old of what it had not":                 {Kind: op, Tx: 1, Key: "k", Has: true, Old: "u"},
		"New of what it has not":                 {Kind: op, Tx: 1, Key: "k", Had: true, New: "v"},
		"New of what a compensation has not":     {Kind: undo, Tx: 1, Key: "k", New: "v"},
		"neither had nor has":                    {Kind: op, Tx: 1, Key: "k"},
		"a compensation with Had":                {Kind: undo, Tx: 1, Key: "k", Had: true},
		"a compensation with Old":                {Kind: undo, Tx: 1, Key: "k", Old: "u"},
		"a compensation with Had and Old":        {Kind: undo, Tx: 1, Key: "k", Had: true, Old: "u"},
		"a compensation with all of them":        {Kind: undo, Tx: 1, Key: "k", Had: true, Old: "u", Has: true, New: "v"},
		"a commit with a key":                    {Kind: commit, Tx: 1, Key: "k"},
		"a commit with a key that has something": {Kind: commit, Tx: 1, Key: "k", Has: true, New: "v"},
		"a commit with Prev":                     {Kind: commit, Tx: 1, Prev: 1},
		"an end with Had":                        {Kind: end, Tx: 1, Had: true},
		"an end with Has":                        {Kind: end, Tx: 1, Has: true},
		"an end with Old":                        {Kind: end, Tx: 1, Old: "u"},
		"an end with New":                        {Kind: end, Tx: 1, New: "v"},
	} {
		if e := oplog.Check(l); e != api.ErrLog {
			t.Error(what, e)
		}
	}
}

// checkAll holds all calls against the chapter's Terms for one record.
func checkAll(t *testing.T, l api.Log) {
	t.Helper()
	want, bytes := api.ErrLog, ""
	if plainRight(l) {
		want, bytes = api.OK, plainBytes(l)
	}
	if e := oplog.Check(l); e != want {
		t.Fatal("Check", told(l), e)
	}
	s, e := oplog.Put(l)
	if s != bytes || e != want {
		t.Fatalf("Put of %s: %x %v", told(l), s[:min(len(s), 300)], e)
	}
	// Get is held also against what the bytes of a record that is not valid would be.
	if !checkGet(t, l.Kind, plainBytes(l)) && plainRight(l) {
		t.Fatal("Get", told(l))
	}
	checkRest(t, l)
}

// checkRest holds the calls of P24.2 and P24.3 against the chapter's Terms.
func checkRest(t *testing.T, l api.Log) {
	t.Helper()
	for _, lsn := range []uint64{0, 9, maxLsn, math.MaxUint64} {
		want, right := plainOp(lsn, l)
		if o, is := oplog.Op(lsn, l); o != want || is != right {
			t.Fatal("Op", lsn, told(l), is)
		}
	}
	want, right := plainBack(l)
	if b, is := oplog.Back(l); b != want || is != right {
		t.Fatal("Back", told(l), told(b), is)
	}
	if n := oplog.Cost(l); n != plainCost(l) {
		t.Fatal("Cost", told(l), n, plainCost(l))
	}
}

func TestAllCallsOfMany(t *testing.T) {
	if len(right()) < 300 || len(wrong()) < 1000 {
		t.Fatal("too few of one kind", len(right()), len(wrong()))
	}
	for _, l := range all() {
		checkAll(t, l)
	}
}

func TestAllCallsAtRandom(t *testing.T) {
	r := rand.New(rand.NewSource(1))
	count := map[bool]int{}
	for range 200000 {
		l := random(r)
		checkAll(t, l)
		count[plainRight(l)]++
	}
	if count[true] < 40000 || count[false] < 40000 {
		t.Error("too few of one kind", count)
	}
}

// checkGet holds Get against the chapter's Terms for any bytes.
func checkGet(t *testing.T, kind uint8, s string) bool {
	t.Helper()
	want, right := plainGet(kind, s)
	wantError := api.ErrLog
	if right {
		wantError = api.OK
	}
	if l, e := oplog.Get(kind, s); l != want || e != wantError {
		t.Fatalf("Get(%d, %x): %s %v", kind, s[:min(len(s), 300)], told(l), e)
	}
	return right
}

func TestGetByName(t *testing.T) {
	tx, prev := plainNumber(3), plainNumber(5)
	for _, c := range []struct {
		what string
		kind uint8
		s    string
		want api.Log
	}{
		{"a commit", commit, tx, api.Log{Kind: commit, Tx: 3}},
		{"an end", end, tx, api.Log{Kind: end, Tx: 3}},
		{"an operation", op, tx + prev + "\x00\x01k\x01\x00\x00\x01u\x00\x00", api.Log{Kind: op, Tx: 3, Prev: 5, Key: "k", Had: true, Old: "u"}},
		{"a compensation", undo, tx + prev + "\x00\x01k\x00\x01\x00\x00\x00\x01u", api.Log{Kind: undo, Tx: 3, Prev: 5, Key: "k", Has: true, New: "u"}},
		{"nothing", commit, "", api.Log{}},
		{"nothing of an operation", op, "", api.Log{}},
		{"no kind", 0, tx, api.Log{}},
		{"no kind and no bytes", 0, "", api.Log{}},
		{"kind 5 and no bytes", 5, "", api.Log{}},
		{"kind 5", 5, tx, api.Log{}},
		{"kind 255 with the bytes of an operation", 255, insertBytes, api.Log{}},
		{"an operation of a commit's bytes", op, tx, api.Log{}},
		{"a commit of an operation's bytes", commit, insertBytes, api.Log{}},
		{"seven bytes", commit, tx[1:], api.Log{}},
		{"nine bytes", end, tx + "\x00", api.Log{}},
		{"the transaction 0", end, plainNumber(0), api.Log{}},
		{"a transaction too great", end, plainNumber(maxLsn + 1), api.Log{}},
		{"Prev too great", op, tx + plainNumber(maxLsn+1) + insertBytes[16:], api.Log{}},
		{"Had 2", op, tx + prev + "\x00\x01k\x02\x00\x00\x00\x00\x00", api.Log{}},
		{"Had 2 and Has 1", op, tx + prev + "\x00\x01k\x02\x01\x00\x00\x00\x00", api.Log{}},
		{"Has 2", op, tx + prev + "\x00\x01k\x01\x02\x00\x00\x00\x00", api.Log{}},
		{"Has 255", undo, tx + prev + "\x00\x01k\x00\xff\x00\x00\x00\x00", api.Log{}},
		{"neither had nor has", op, tx + prev + "\x00\x01k\x00\x00\x00\x00\x00\x00", api.Log{}},
		{"a compensation with Had", undo, tx + prev + "\x00\x01k\x01\x00\x00\x00\x00\x00", api.Log{}},
		{"a compensation with Old", undo, tx + prev + "\x00\x01k\x00\x00\x00\x01u\x00\x00", api.Log{}},
		{"Old of what it had not", op, tx + prev + "\x00\x01k\x00\x01\x00\x01u\x00\x00", api.Log{}},
		{"no key", op, tx + prev + "\x00\x00\x00\x01\x00\x00\x00\x00", api.Log{}},
		{"a key too long", op, tx + prev + plainText(long(513)) + "\x00\x01\x00\x00\x00\x00", api.Log{}},
		{"a key as long as a value may be", op, tx + prev + plainText(long(2048)) + "\x00\x01\x00\x00\x00\x00", api.Log{}},
		{"a value too long", op, tx + prev + "\x00\x01k\x00\x01\x00\x00" + plainText(long(2049)), api.Log{}},
		{"a length beyond the end", op, insertBytes[:len(insertBytes)-2] + "\x02v", api.Log{}},
		{"a length ahead of the end", op, insertBytes + "w", api.Log{}},
		{"two records", commit, tx + tx, api.Log{}},
	} {
		want := api.ErrLog
		if c.want.Kind != 0 {
			want = api.OK
		}
		if l, e := oplog.Get(c.kind, c.s); l != c.want || e != want {
			t.Error(c.what, told(l), e)
		}
		checkGet(t, c.kind, c.s)
	}
}

func TestGetOfEachKind(t *testing.T) {
	for _, l := range right() {
		for kind := range 256 {
			checkGet(t, uint8(kind), plainBytes(l))
		}
	}
}

func TestGetOfCutAndProlongedBytes(t *testing.T) {
	for _, l := range bases() {
		s := plainBytes(l)
		for i := range len(s) {
			if checkGet(t, l.Kind, s[:i]) || checkGet(t, l.Kind, s[i+1:]) {
				t.Error(told(l), i)
			}
			for _, kind := range kinds() {
				checkGet(t, kind, s[:i])
				checkGet(t, kind, s[:i]+s[i+1:])
			}
		}
		for _, more := range []string{"\x00", "x", "\xff", "\x00\x00", s, long(70000)} {
			if checkGet(t, l.Kind, s+more) || checkGet(t, l.Kind, more+s) {
				t.Error(told(l), len(more))
			}
		}
	}
}

func TestGetOfChangedBytes(t *testing.T) {
	kept := 0
	for _, l := range bases() {
		s := plainBytes(l)
		for i := range len(s) {
			for c := range 256 {
				if checkGet(t, l.Kind, s[:i]+string([]byte{byte(c)})+s[i+1:]) {
					kept++
				}
			}
		}
	}
	if kept < 1000 {
		t.Error("too few records", kept)
	}
}

func TestGetOfRandomBytes(t *testing.T) {
	r := rand.New(rand.NewSource(2))
	records := 0
	for range 200000 {
		// Bytes that are put together like those of a record, mostly without a fault.
		s := plainBytes(random(r))
		if len(s) > 0 && r.Intn(3) == 0 {
			b := []byte(s)
			b[r.Intn(len(b))] ^= 1 << r.Intn(8)
			s = string(b)
		}
		if checkGet(t, kinds()[r.Intn(4)], s) {
			records++
		}
		noise := make([]byte, r.Intn(40))
		r.Read(noise)
		checkGet(t, kinds()[r.Intn(4)], string(noise))
	}
	if records < 10000 {
		t.Error("too few records", records)
	}
}

// P24.2: the operation of a record, and the compensation of an operation.

func TestOpByName(t *testing.T) {
	for _, c := range []struct {
		what string
		l    api.Log
		want api.Op
	}{
		{"insert", api.Log{Kind: op, Tx: 3, Key: "k", Has: true, New: "v", Prev: 2}, api.Op{Lsn: 9, Key: "k", Value: "v"}},
		{"update", api.Log{Kind: op, Tx: 3, Key: "k", Had: true, Old: "u", Has: true, New: "v"}, api.Op{Lsn: 9, Key: "k", Value: "v"}},
		{"update to an empty value", api.Log{Kind: op, Tx: 3, Key: "k", Had: true, Old: "u", Has: true}, api.Op{Lsn: 9, Key: "k"}},
		{"delete", api.Log{Kind: op, Tx: 3, Key: "k", Had: true, Old: "u"}, api.Op{Lsn: 9, Del: true, Key: "k"}},
		{"what is again", api.Log{Kind: undo, Tx: 3, Key: "k", Has: true, New: "u", Prev: 4}, api.Op{Lsn: 9, Key: "k", Value: "u"}},
		{"what is gone again", api.Log{Kind: undo, Tx: 3, Key: "k"}, api.Op{Lsn: 9, Del: true, Key: "k"}},
		{"commit", api.Log{Kind: commit, Tx: 3}, api.Op{}},
		{"end", api.Log{Kind: end, Tx: 3}, api.Op{}},
		{"not valid", api.Log{Kind: op, Tx: 3, Key: "k"}, api.Op{}},
		{"a commit with a key", api.Log{Kind: commit, Tx: 3, Key: "k", Has: true}, api.Op{}},
	} {
		if o, is := oplog.Op(9, c.l); o != c.want || is != (c.want.Lsn != 0) {
			t.Error(c.what, o, is)
		}
	}
}

func TestBackByName(t *testing.T) {
	for _, c := range []struct {
		what    string
		l, want api.Log
	}{
		{"insert", api.Log{Kind: op, Tx: 3, Key: "k", Has: true, New: "v", Prev: 2}, api.Log{Kind: undo, Tx: 3, Key: "k", Prev: 2}},
		{"update", api.Log{Kind: op, Tx: 3, Key: "k", Had: true, Old: "u", Has: true, New: "v"}, api.Log{Kind: undo, Tx: 3, Key: "k", Has: true, New: "u"}},
		{"update of an empty value", api.Log{Kind: op, Tx: 3, Key: "k", Had: true, Has: true, New: "v"}, api.Log{Kind: undo, Tx: 3, Key: "k", Has: true}},
		{"delete", api.Log{Kind: op, Tx: 3, Key: "k", Had: true, Old: "u", Prev: 1}, api.Log{Kind: undo, Tx: 3, Key: "k", Has: true, New: "u", Prev: 1}},
		{"a compensation", api.Log{Kind: undo, Tx: 3, Key: "k", Has: true, New: "u"}, api.Log{}},
		{"commit", api.Log{Kind: commit, Tx: 3}, api.Log{}},
		{"end", api.Log{Kind: end, Tx: 3}, api.Log{}},
		{"not valid", api.Log{Kind: op, Key: "k", Has: true}, api.Log{}},
	} {
		if l, is := oplog.Back(c.l); l != c.want || is != (c.want.Kind != 0) {
			t.Error(c.what, told(l), is)
		}
	}
}

// P24.3: what a record takes in a log, and what its compensation will take.

func TestCostIsWhatALogTakes(t *testing.T) {
	for _, l := range right() {
		log, before := newLog(t)
		put(t, log, l)
		if undo, is := oplog.Back(l); is {
			put(t, log, undo)
		}
		if taken := before - log.Room(); oplog.Cost(l) != taken {
			t.Error(told(l), oplog.Cost(l), taken)
		}
	}
	for _, l := range wrong() {
		if n := oplog.Cost(l); n != 0 {
			t.Error(told(l), n)
		}
	}
}

// newLog returns an empty log, and how many bytes it has room for.
func newLog(t *testing.T) (*wal.Wal, int) {
	t.Helper()
	log, e := wal.Open(tape.New(100000), 0)
	if e != api.OK {
		t.Fatal(e)
	}
	return log, log.Room()
}

// put appends a record to a log, and reads it again.
func put(t *testing.T, log *wal.Wal, l api.Log) {
	t.Helper()
	s, e := oplog.Put(l)
	n, f := log.Append(l.Kind, s)
	entry, g := log.Get(n)
	again, h := oplog.Get(entry.Kind, entry.Data)
	if again != l || e != api.OK || f != api.OK || g != api.OK || h != api.OK {
		t.Fatal(told(l), told(again), e, f, g, h)
	}
}

// P24.4: equal bytes of equal records; a compensation takes back its operation.

func TestBytesAreEqualIfRecordsAre(t *testing.T) {
	type bytes struct {
		kind uint8
		s    string
	}
	seen := map[bytes]api.Log{}
	r := rand.New(rand.NewSource(3))
	records := right()
	for range 100000 {
		if l := random(r); plainRight(l) {
			records = append(records, l)
		}
	}
	again := 0
	for _, l := range records {
		s, e := oplog.Put(l)
		if e != api.OK {
			t.Fatal(told(l), e)
		}
		other, is := seen[bytes{l.Kind, s}]
		if is && other != l {
			t.Fatalf("%s and %s: %x", told(l), told(other), s)
		}
		if is {
			again++
		}
		seen[bytes{l.Kind, s}] = l
	}
	if len(seen) < 10000 || again < 100 {
		t.Error("too few", len(seen), again)
	}
	// What differs in one field differs in its bytes.
	for _, a := range bases() {
		for _, b := range variants(a) {
			if s, e := oplog.Put(b); a.Kind == b.Kind && e == api.OK && (s == plainBytes(a)) != (a == b) {
				t.Error(told(a), told(b))
			}
		}
	}
}

// do does an operation on a map.
func do(m map[string]string, o api.Op) {
	if o.Del {
		delete(m, o.Key)
		return
	}
	m[o.Key] = o.Value
}

func TestCompensationTakesBack(t *testing.T) {
	r := rand.New(rand.NewSource(4))
	m := map[string]string{}
	done := 0
	for range 20000 {
		l := api.Log{Kind: op, Tx: 1 + uint64(r.Intn(3)), Key: string([]byte{byte(r.Intn(4))}), Has: r.Intn(3) > 0, Prev: uint64(r.Intn(5))}
		if l.Has {
			l.New = strings.Repeat("v", r.Intn(3))
		}
		l.Old, l.Had = m[l.Key]
		o, is := oplog.Op(7, l)
		if is != (l.Had || l.Has) {
			t.Fatal(told(l), is)
		}
		if !is {
			continue
		}
		do(m, o)
		if value, has := m[l.Key]; value != l.New || has != l.Has {
			t.Fatal("done", told(l))
		}
		if r.Intn(2) == 0 {
			continue
		}
		back, _ := oplog.Back(l)
		o, is = oplog.Op(8, back)
		if !is {
			t.Fatal(told(back))
		}
		do(m, o)
		if value, had := m[l.Key]; value != l.Old || had != l.Had {
			t.Fatal("undone", told(l))
		}
		done++
	}
	if done < 1000 {
		t.Error("too few", done)
	}
}

// R1, R3: no argument makes a call panic, and beside an error or a false all is zero.

func TestNothingGiven(t *testing.T) {
	if s, e := oplog.Put(api.Log{}); s != "" || e != api.ErrLog {
		t.Error(s, e)
	}
	for kind := range 256 {
		if l, e := oplog.Get(uint8(kind), ""); l != (api.Log{}) || e != api.ErrLog {
			t.Error(kind, told(l), e)
		}
	}
	checkRest(t, api.Log{})
}

func TestHugeTexts(t *testing.T) {
	huge := long(1 << 24)
	for _, l := range []api.Log{
		{Kind: op, Tx: 1, Key: huge, Has: true},
		{Kind: op, Tx: 1, Key: "k", Had: true, Old: huge},
		{Kind: undo, Tx: 1, Key: "k", Has: true, New: huge},
		{Kind: commit, Tx: 1, Key: huge},
	} {
		if s, e := oplog.Put(l); s != "" || e != api.ErrLog || oplog.Cost(l) != 0 {
			t.Error(l.Kind, len(s), e)
		}
	}
	for _, kind := range kinds() {
		checkGet(t, kind, huge)
		checkGet(t, kind, insertBytes+huge)
	}
}

package span_test

import (
	"math/rand"
	"strconv"
	"strings"
	"testing"

	"lockkeeper/api"
	"lockkeeper/span"
)

func to(from, to string) api.Range { return api.Range{From: from, To: to, End: true} }

func from(from string) api.Range { return api.Range{From: from} }

// of is a string of so many bytes.
func of(size int) string { return strings.Repeat("k", size) }

// last is a string of so many bytes behind which no other of its length or a shorter one comes.
func last(size int) string { return strings.Repeat("\xff", size) }

// show is a string with its length, of which not more is shown than can be read.
func show(s string) string {
	if len(s) <= 12 {
		return strconv.Quote(s)
	}
	return strconv.Quote(s[:4]) + ".." + strconv.Quote(s[len(s)-4:]) + " of " + strconv.Itoa(len(s))
}

func showRange(r api.Range) string {
	return "{" + show(r.From) + " to " + show(r.To) + ", " + strconv.FormatBool(r.End) + "}"
}

// bounds returns strings of which some are next to each other, or begin each other, or are as long as a bound may be.
func bounds() []string {
	return []string{
		"", "\x00", "\x00\x00", "a", "a\x00", "a\x00\x00", "a\x01", "aa", "ab", "b", "\x7f", "\x80", "\xff", "\xff\xff",
		of(512), of(513), of(512) + "\x00", of(512) + "l", last(513),
	}
}

// keys returns all bounds, and what is right ahead of them or behind them, and keys behind every bound.
func keys() []string {
	all := []string{of(514), of(600), last(514), last(600)}
	for _, b := range bounds() {
		all = append(all, b, b+"\x00", b+"\xff")
	}
	return all
}

// valid returns the ranges between bounds, and those behind one.
func valid() []api.Range {
	var all []api.Range
	for _, a := range bounds() {
		all = append(all, from(a))
		for _, b := range bounds() {
			if a < b {
				all = append(all, to(a, b))
			}
		}
	}
	return all
}

func invalid() []api.Range {
	return []api.Range{
		to("", ""), to("a", "a"), to("a\x00", "a"), to("b", "a"), to("\xff", "\x7f"), to("ab", "a"), to(of(513), of(513)),
		{To: "a"}, {To: "\x00"}, {From: "a", To: "b"}, {From: "a", To: "a"}, {From: "b", To: "a"}, {To: of(514)},
		from(of(514)), from(last(5000)), to(of(514), "l"), to("a", of(514)), to("", of(600)), to(of(514), of(515)),
	}
}

// holds reports whether a key is in a valid range, as the chapter's Terms say.
func holds(r api.Range, key string) bool {
	return key >= r.From && !(r.End && key >= r.To)
}

// P3.1

func TestRight(t *testing.T) {
	for _, r := range valid() {
		if !span.Right(r) {
			t.Error(showRange(r))
		}
	}
	for _, r := range invalid() {
		if span.Right(r) {
			t.Error(showRange(r))
		}
	}
}

func TestRightAtTheLimit(t *testing.T) {
	for _, c := range []struct {
		r    api.Range
		want bool
	}{
		{from(of(513)), true},
		{from(of(514)), false},
		{to(of(513), "l"), true},
		{to(of(514), "l"), false},
		{to("a", of(513)), true},
		{to("a", of(514)), false},
		{to(of(512), of(513)), true},
		{to(of(513), of(514)), false},
	} {
		if span.Right(c.r) != c.want {
			t.Errorf("%s: not %v", showRange(c.r), c.want)
		}
	}
}

func TestHas(t *testing.T) {
	for _, r := range valid() {
		for _, key := range keys() {
			if got := span.Has(r, key); got != holds(r, key) {
				t.Errorf("%s, %s: %v", showRange(r), show(key), got)
			}
		}
	}
	for _, r := range invalid() {
		for _, key := range append(keys(), r.From, r.To) {
			if span.Has(r, key) {
				t.Errorf("%s, which is not valid, has %s", showRange(r), show(key))
			}
		}
	}
}

func TestHasAtTheBounds(t *testing.T) {
	for _, c := range []struct {
		r    api.Range
		key  string
		want bool
	}{
		{to("b", "d"), "b", true},
		{to("b", "d"), "c", true},
		{to("b", "d"), "c\xff\xff", true},
		{to("b", "d"), "d", false},
		{to("b", "d"), "d\x00", false},
		{to("b", "d"), "a\xff\xff", false},
		{to("b", "d"), "", false},
		{to("", "\x00"), "", true},
		{to("", "\x00"), "\x00", false},
		{to("\x7f", "\xff"), "\x80", true},
		{from("b"), "z", true},
		{from("b"), "b", true},
		{from("b"), "ab", false},
		{from("b"), last(5000), true},
		{from(""), "", true},
		{to("k", of(513)), of(5000), false},
		{to("k", "l"), of(5000), true},
	} {
		if got := span.Has(c.r, c.key); got != c.want {
			t.Errorf("%s, %s: %v", showRange(c.r), show(c.key), got)
		}
	}
}

func TestPoint(t *testing.T) {
	for _, key := range append(keys(), of(511), last(512), last(511)) {
		p := span.Point(key)
		if len(key) > 512 {
			if p != (api.Range{}) {
				t.Errorf("of %s: %s", show(key), showRange(p))
			}
			continue
		}
		if p != to(key, key+"\x00") || !span.Right(p) {
			t.Errorf("of %s: %s", show(key), showRange(p))
		}
		for _, k := range keys() {
			if span.Has(p, k) != (k == key) {
				t.Errorf("the point of %s has %s", show(key), show(k))
			}
		}
	}
}

// P3.2

// share reports whether a key of the sample is in both of two valid ranges: if any key is, the beginning of one of them is.
func share(a, b api.Range) bool {
	for _, key := range keys() {
		if holds(a, key) && holds(b, key) {
			return true
		}
	}
	return false
}

// contains reports whether every key of the sample that is in a is in b: if one is not, then a's beginning is not, or b's end, or a key behind all.
func contains(b, a api.Range) bool {
	for _, key := range keys() {
		if holds(a, key) && !holds(b, key) {
			return false
		}
	}
	return true
}

func TestMeets(t *testing.T) {
	for _, a := range valid() {
		for _, b := range valid() {
			if got := span.Meets(a, b); got != share(a, b) {
				t.Errorf("%s, %s: %v", showRange(a), showRange(b), got)
			}
		}
	}
}

func TestWithin(t *testing.T) {
	for _, a := range valid() {
		for _, b := range valid() {
			if got := span.Within(a, b); got != contains(b, a) {
				t.Errorf("%s, %s: %v", showRange(a), showRange(b), got)
			}
		}
	}
}

func TestBoth(t *testing.T) {
	for _, a := range valid() {
		for _, b := range valid() {
			r, is := span.Both(a, b)
			if is != share(a, b) {
				t.Errorf("%s, %s: %v", showRange(a), showRange(b), is)
			}
			if !is && r != (api.Range{}) || is && !span.Right(r) {
				t.Errorf("%s, %s: %s", showRange(a), showRange(b), showRange(r))
			}
		}
	}
}

func TestTwoRanges(t *testing.T) {
	for _, c := range []struct {
		a, b                  api.Range
		both                  api.Range
		meets, within, covers bool
	}{
		{a: to("a", "b"), b: from("b")},
		{a: to("a", "b"), b: to("b", "c")},
		{a: to("a", "b"), b: to("c", "d")},
		{a: to("a", "b\x00"), b: from("b"), both: to("b", "b\x00"), meets: true},
		{a: to("a", "c"), b: from("b"), both: to("b", "c"), meets: true},
		{a: to("a", "c"), b: to("b", "d"), both: to("b", "c"), meets: true},
		{a: to("a", "d"), b: to("b", "c"), both: to("b", "c"), meets: true, covers: true},
		{a: to("b", "c"), b: from("a"), both: to("b", "c"), meets: true, within: true},
		{a: to("b", "c"), b: from("b"), both: to("b", "c"), meets: true, within: true},
		{a: to("b", "c"), b: to("a", "c"), both: to("b", "c"), meets: true, within: true},
		{a: to("b", "c"), b: to("b", "d"), both: to("b", "c"), meets: true, within: true},
		{a: from("b"), b: from("a"), both: from("b"), meets: true, within: true},
		{a: from(""), b: from(""), both: from(""), meets: true, within: true, covers: true},
		{a: to("a", "c"), b: to("a", "c"), both: to("a", "c"), meets: true, within: true, covers: true},
		{a: to("a", last(513)), b: from("a"), both: to("a", last(513)), meets: true, within: true},
		{a: from(last(513)), b: to("a", last(513))},
		{a: to("", "\x00"), b: from(""), both: to("", "\x00"), meets: true, within: true},
	} {
		if span.Meets(c.a, c.b) != c.meets || span.Meets(c.b, c.a) != c.meets {
			t.Errorf("Meets: %s, %s: not %v", showRange(c.a), showRange(c.b), c.meets)
		}
		if span.Within(c.a, c.b) != c.within || span.Within(c.b, c.a) != c.covers {
			t.Errorf("Within: %s, %s: not %v, %v", showRange(c.a), showRange(c.b), c.within, c.covers)
		}
		if r, is := span.Both(c.a, c.b); r != c.both || is != c.meets {
			t.Errorf("Both: %s, %s: %s, %v", showRange(c.a), showRange(c.b), showRange(r), is)
		}
		if r, is := span.Both(c.b, c.a); r != c.both || is != c.meets {
			t.Errorf("Both: %s, %s: %s, %v", showRange(c.b), showRange(c.a), showRange(r), is)
		}
	}
}

func TestTwoRangesOneOfThemInvalid(t *testing.T) {
	none := func(a, b api.Range) {
		t.Helper()
		r, is := span.Both(a, b)
		if r != (api.Range{}) || is || span.Meets(a, b) || span.Within(a, b) {
			t.Errorf("%s, %s: Both %s, %v, Meets %v, Within %v", showRange(a), showRange(b), showRange(r), is, span.Meets(a, b), span.Within(a, b))
		}
	}
	for _, a := range invalid() {
		for _, b := range append(valid(), invalid()...) {
			none(a, b)
			none(b, a)
		}
	}
}

// P3.3

// shortest is the shortest prefix of b that is behind a; false if none is.
func shortest(a, b string) (string, bool) {
	for n := range len(b) + 1 {
		if b[:n] > a {
			return b[:n], true
		}
	}
	return "", false
}

// pairs calls try with pairs of strings, of which many have a beginning in common.
func pairs(try func(a, b string)) {
	for _, a := range keys() {
		for _, b := range keys() {
			try(a, b)
		}
	}
	rng := rand.New(rand.NewSource(33))
	some := func() string {
		b := make([]byte, rng.Intn(6))
		for i := range b {
			b[i] = "\x00\x7f\x80\xff"[rng.Intn(4)]
		}
		return string(b)
	}
	for range 20000 {
		start := some()
		try(start+some(), start+some())
	}
}

func TestCut(t *testing.T) {
	pairs(func(a, b string) {
		want, is := shortest(a, b)
		e := api.OK
		if !is {
			e = api.ErrSpan
		}
		if got, err := span.Cut(a, b); got != want || err != e {
			t.Errorf("%s, %s: %s, %v", show(a), show(b), show(got), err)
		}
	})
}

func TestCutOfFew(t *testing.T) {
	for _, c := range []struct {
		a, b, want string
		e          api.Errno
	}{
		{"abc", "abx", "abx", api.OK},
		{"ab", "abc", "abc", api.OK},
		{"ab", "abcd", "abc", api.OK},
		{"", "q", "q", api.OK},
		{"", "qr", "q", api.OK},
		{"", "\x00", "\x00", api.OK},
		{"a", "a\x00\x00", "a\x00", api.OK},
		{"axx", "b", "b", api.OK},
		{"axx", "bxx", "b", api.OK},
		{"\x7f", "\x80\x01", "\x80", api.OK},
		{"ab\xff", "ac\x00", "ac", api.OK},
		{of(5000), of(5002), of(5001), api.OK},
		{of(5000), of(4999) + "mm", of(4999) + "m", api.OK},
		{"b", "a", "", api.ErrSpan},
		{"a", "a", "", api.ErrSpan},
		{"", "", "", api.ErrSpan},
		{"abc", "ab", "", api.ErrSpan},
		{"a\x00", "a", "", api.ErrSpan},
		{"a", "", "", api.ErrSpan},
		{"\x80", "\x7f", "", api.ErrSpan},
		{of(5000), of(5000), "", api.ErrSpan},
	} {
		if got, e := span.Cut(c.a, c.b); got != c.want || e != c.e {
			t.Errorf("%s, %s: %s, %v", show(c.a), show(c.b), show(got), e)
		}
	}
}

// P3.4

func TestKeysOfBoth(t *testing.T) {
	all := append(valid(), invalid()...)
	sample := keys()
	for _, a := range all {
		for _, b := range all {
			both, is := span.Both(a, b)
			for _, key := range sample {
				if (is && span.Has(both, key)) != (span.Has(a, key) && span.Has(b, key)) {
					t.Errorf("%s, %s: %s", showRange(a), showRange(b), show(key))
				}
			}
		}
	}
}

func TestMeetingRangesContainABeginning(t *testing.T) {
	all := append(valid(), invalid()...)
	for _, a := range all {
		for _, b := range all {
			// A range that is not valid contains nothing, but its From may be in the other: two valid ranges are meant.
			begins := span.Right(a) && span.Right(b) && (span.Has(a, b.From) || span.Has(b, a.From))
			if span.Meets(a, b) != begins {
				t.Errorf("%s, %s: %v", showRange(a), showRange(b), begins)
			}
		}
	}
}

func TestCutSeparates(t *testing.T) {
	pairs(func(a, b string) {
		cut, e := span.Cut(a, b)
		if e == api.OK && (a >= cut || b < cut) {
			t.Errorf("%s, %s: %s", show(a), show(b), show(cut))
		}
	})
}

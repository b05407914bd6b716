package peaks_test

import (
	"slices"
	"strings"
	"testing"

	"pantile/peaks"
)

// P9.1: a range without things: none, no peaks, no top.
func TestRangeOfNone(t *testing.T) {
	if r := peaks.New(brackets); r.Len() != 0 || len(r.Peaks()) != 0 {
		t.Errorf("texts: Len %d, Peaks %q", r.Len(), r.Peaks())
	} else if top, ok := r.Top(); top != "" || ok {
		t.Errorf("texts: Top %q %v", top, ok)
	}
	if top, ok := peaks.New(added).Top(); top != 0 || ok {
		t.Errorf("numbers: Top %d %v", top, ok)
	}
	if top, ok := peaks.New(behind).Top(); top != nil || ok {
		t.Errorf("lists: Top %v %v", top, ok)
	}
	if top, ok := peaks.New(spanned).Top(); top != (span{}) || ok {
		t.Errorf("spans: Top %v %v", top, ok)
	}
	if top, ok := peaks.Hashes().Top(); top != "" || ok {
		t.Errorf("hashes: Top %x %v", top, ok)
	}
}

// P9.1: the chapter's example, and those around it, written out.
func TestRangeOfAFew(t *testing.T) {
	r := peaks.New(brackets)
	for i, c := range []struct{ peaks, top string }{
		{"a", "a"},
		{"(ab)", "(ab)"},
		{"(ab) c", "((ab)c)"},
		{"((ab)(cd))", "((ab)(cd))"},
		{"((ab)(cd)) e", "(((ab)(cd))e)"},
		{"((ab)(cd)) (ef)", "(((ab)(cd))(ef))"},
		{"((ab)(cd)) (ef) g", "(((ab)(cd))((ef)g))"},
		{"(((ab)(cd))((ef)(gh)))", "(((ab)(cd))((ef)(gh)))"},
		{"(((ab)(cd))((ef)(gh))) i", "((((ab)(cd))((ef)(gh)))i)"},
	} {
		r.Add(letter(i))
		if got := strings.Join(r.Peaks(), " "); got != c.peaks {
			t.Errorf("Peaks of %d: %q, not %q", i+1, got, c.peaks)
		}
		if got, ok := r.Top(); got != c.top || !ok {
			t.Errorf("Top of %d: %q %v, not %q", i+1, got, ok, c.top)
		}
		if r.Len() != i+1 {
			t.Errorf("Len of %d: %d", i+1, r.Len())
		}
	}
}

// P9.1: a top is told as one that is there, even where it is the zero one.
func TestTopThatIsZero(t *testing.T) {
	for n := 1; n < 10; n++ {
		if top, ok := grown(added, make([]int, n)).Top(); top != 0 || !ok {
			t.Errorf("of %d noughts: %d %v", n, top, ok)
		}
		if top, ok := grown(func(a, b string) string { return a + b }, make([]string, n)).Top(); top != "" || !ok {
			t.Errorf("of %d empty texts: %q %v", n, top, ok)
		}
	}
}

// P9.3: things of many kinds, asked once they are all there, by the tree's definition.
func TestRangeByDefinition(t *testing.T) {
	for _, n := range sizes() {
		letters, numbers, lists, ones := many(n, letter), many(n, number), many(n, list), many(n, one)
		told(t, "brackets", grown(brackets, letters), brackets, letters, equal)
		told(t, "added", grown(added, numbers), added, numbers, equal)
		told(t, "behind", grown(behind, lists), behind, lists, slices.Equal)
		told(t, "spanned", grown(spanned, ones), spanned, ones, equal)
	}
	hashes := many(300, leafHash)
	for n := range hashes {
		told(t, "hashes", grown(peaks.NodeHash, hashes[:n]), modelNode, hashes[:n], equal)
	}
}

// P9.3: a range that is asked behind each thing is that of the things that are there.
func TestRangeAskedAsItGrows(t *testing.T) {
	texts, spans, sums := peaks.New(brackets), peaks.New(spanned), peaks.New(added)
	letters, ones, numbers := many(300, letter), many(300, one), many(300, number)
	for n := range letters {
		for range n%3 + 1 {
			told(t, "brackets", texts, brackets, letters[:n], equal)
			told(t, "spanned", spans, spanned, ones[:n], equal)
			told(t, "added", sums, added, numbers[:n], equal)
		}
		texts.Add(letters[n])
		spans.Add(ones[n])
		sums.Add(numbers[n])
	}
}

// P9.3: of how many whole things each peak is made, and that they stand side by side, from the first thing to the last.
func TestPeaksAreWhole(t *testing.T) {
	for _, n := range append(sizes(), 1<<17-1, 1<<17, 1<<17+1, 100000) {
		r, at, rest := grown(spanned, many(n, one)), 0, n
		for _, p := range r.Peaks() {
			whole := 1 << p.deep
			if p.torn || p.from != at || p.to-p.from != whole || whole > rest || 2*whole <= rest {
				t.Fatalf("of %d: a peak %v at %d", n, p, at)
			}
			at, rest = p.to, rest-whole
		}
		if rest != 0 || r.Len() != n {
			t.Errorf("of %d: %d are in no peak, Len %d", n, rest, r.Len())
		}
		if top, ok := r.Top(); ok && (top.torn || top.from != 0 || top.to != n) {
			t.Errorf("of %d: Top %v", n, top)
		}
	}
}

// P9.1: ranges grow each for itself, be their join the same or not.
func TestRangesApart(t *testing.T) {
	joins := []func(a, b string) string{brackets, brackets, func(a, b string) string { return b + a }, func(a, b string) string { return a }}
	var ranges []*peaks.Range[string]
	for _, join := range joins {
		ranges = append(ranges, peaks.New(join))
	}
	letters := many(100, letter)
	for n := range letters {
		for i, r := range ranges {
			told(t, "side by side", r, joins[i], letters[i:max(i, n)], equal)
			if n >= i {
				r.Add(letters[n])
			}
		}
	}
}

// P9.1, P9.3: join is asked for no two that are not side by side, and no more than the tree needs.
func TestJoinIsAskedForNeighbours(t *testing.T) {
	asked := 0
	join := func(a, b span) span {
		asked++
		if one := spanned(a, b); one.torn || a.deep < b.deep || a.to-a.from != 1<<a.deep {
			t.Errorf("%v and %v are made one", a, b)
		}
		return spanned(a, b)
	}
	for n := range 70 {
		asked = 0
		r := grown(join, many(n, one))
		r.Top()
		if want := max(n-1, 0); asked != want {
			t.Errorf("of %d: %d are made one, not %d", n, asked, want)
		}
	}
}

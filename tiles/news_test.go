package tiles_test

import (
	"slices"
	"strconv"
	"testing"

	"pantile/api"
	"pantile/tiles"
)

func ofTo(m, n int) string { return "News of " + strconv.Itoa(m) + " to " + strconv.Itoa(n) }

// P12.4: news of a tree that does not grow, whose last tiles grow wider, that gets more tiles, and that gets a new level, written out.
func TestKnownNews(t *testing.T) {
	for _, c := range []struct {
		m, n int
		want []api.Tile
	}{
		{0, 0, nil}, {1, 1, nil}, {255, 255, nil}, {256, 256, nil}, {257, 257, nil}, {65536, 65536, nil}, {mostLeaves, mostLeaves, nil},
		{0, 1, together(one(-1, 0, 1), one(0, 0, 1))},
		{0, 256, together(one(-1, 0, 256), one(0, 0, 256), one(1, 0, 1))},
		{1, 2, together(one(-1, 0, 2), one(0, 0, 2))},
		{2, 255, together(one(-1, 0, 255), one(0, 0, 255))},
		{255, 256, together(one(-1, 0, 256), one(0, 0, 256), one(1, 0, 1))},
		{255, 257, together(one(-1, 0, 256), one(-1, 1, 1), one(0, 0, 256), one(0, 1, 1), one(1, 0, 1))},
		{256, 257, together(one(-1, 1, 1), one(0, 1, 1))},
		{257, 258, together(one(-1, 1, 2), one(0, 1, 2))},
		{257, 511, together(one(-1, 1, 255), one(0, 1, 255))},
		{257, 512, together(one(-1, 1, 256), one(0, 1, 256), one(1, 0, 2))},
		{300, 800, together(one(-1, 1, 256), one(-1, 2, 256), one(-1, 3, 32), one(0, 1, 256), one(0, 2, 256), one(0, 3, 32), one(1, 0, 3))},
		{65535, 65536, together(one(-1, 255, 256), one(0, 255, 256), one(1, 0, 256), one(2, 0, 1))},
		{65536, 65537, together(one(-1, 256, 1), one(0, 256, 1))},
		{65536, 65792, together(one(-1, 256, 256), one(0, 256, 256), one(1, 1, 1))},
		{131071, 131072, together(one(-1, 511, 256), one(0, 511, 256), one(1, 1, 256), one(2, 0, 2))},
		{mostLeaves - 1, mostLeaves, together(one(-1, 4095, 256), one(0, 4095, 256), one(1, 15, 256), one(2, 0, 16))},
		{mostLeaves - 2, mostLeaves - 1, together(one(-1, 4095, 255), one(0, 4095, 255))},
	} {
		same(t, ofTo(c.m, c.n), tiles.News(c.m, c.n), c.want)
		same(t, "the model's "+ofTo(c.m, c.n), modelNews(c.m, c.n), c.want)
	}
}

// P12.4: news of all small trees to all greater ones up to some, and at the edges.
func TestNewsByDefinition(t *testing.T) {
	for n := range 530 {
		for m := range n + 1 {
			same(t, ofTo(m, n), tiles.News(m, n), modelNews(m, n))
		}
	}
	for i, n := range edges() {
		if i%3 == 1 || n < 1000 || n > mostLeaves-2 {
			for _, m := range edges()[:i+1] {
				same(t, ofTo(m, n), tiles.News(m, n), modelNews(m, n))
			}
		}
	}
	c := chance()
	for range 100 {
		m, more := c.Intn(mostLeaves-1000), c.Intn(1000)
		same(t, ofTo(m, m+more), tiles.News(m, m+more), modelNews(m, m+more))
	}
}

// P12.4: of no leaves all tiles are news.
func TestNewsOfNothing(t *testing.T) {
	for _, n := range edges() {
		same(t, ofTo(0, n), tiles.News(0, n), modelAll(n))
	}
}

// P12.4: what was there, put aside by what is new, is what is there then, step by step.
func TestNewsStepByStep(t *testing.T) {
	c := chance()
	type place struct{ level, index int }
	for range 5 {
		there := map[place]int{}
		for n := 0; n < 70000; {
			m := n
			n += 1 + c.Intn(1+c.Intn(3000))
			for _, x := range tiles.News(m, n) {
				if there[place{x.Level, x.Index}] >= x.Width {
					t.Fatalf("%s: %v is no news", ofTo(m, n), x)
				}
				there[place{x.Level, x.Index}] = x.Width
			}
			want := modelAll(n)
			for _, x := range want {
				if there[place{x.Level, x.Index}] != x.Width {
					t.Fatalf("%s: %v is not there", ofTo(m, n), x)
				}
			}
			if len(there) != len(want) {
				t.Fatalf("%s: %d tiles, not %d", ofTo(m, n), len(there), len(want))
			}
		}
	}
}

// P12.4: none, if one of both may not be, or m is above n.
func TestNoNews(t *testing.T) {
	may := edges()
	for _, not := range others() {
		for _, n := range append(slices.Clone(may), others()...) {
			if a, b := tiles.News(not, n), tiles.News(n, not); len(a) != 0 || len(b) != 0 {
				t.Errorf("%s: %d; %s: %d", ofTo(not, n), len(a), ofTo(n, not), len(b))
			}
		}
	}
	for i, m := range may {
		for _, n := range may[:i] {
			if l := tiles.News(m, n); len(l) != 0 {
				t.Errorf("%s: %d", ofTo(m, n), len(l))
			}
		}
	}
	for m := range 600 {
		for n := range m {
			if l := tiles.News(m, n); len(l) != 0 {
				t.Errorf("%s: %v", ofTo(m, n), l)
			}
		}
	}
}

package passage_test

import (
	"math/rand"
	"slices"
	"testing"

	"limitrophe/api"
	"limitrophe/passage"
)

// driveCase is a net with pastures, the most heads that a drive brings, and the ways that are narrow.
type driveCase struct {
	what     string
	n        passage.Net
	from, to []int
	most     int
	narrow   []int
}

// driven returns how many heads a drive brings at most, and which ways are narrow; and it reports drives and cuts that
// are none, or bring or bar another number of heads.
func driven(t *testing.T, n passage.Net, from, to []int) (int, []int) {
	t.Helper()
	heads, most, e := passage.Drive(n, from, to)
	cut, f := passage.Cut(n, from, to)
	narrow, g := passage.Narrow(n, from, to)
	if e != api.OK || f != api.OK || g != api.OK || len(heads) != len(n.Ways) || !isCut(n, from, to, cut) {
		t.Fatal(n, from, to, heads, cut, e, f, g)
	}
	brings, is := brought(n, from, to, heads)
	if bars := barred(n, cut); !is || brings != most || bars != most {
		t.Error("a drive and a cut differ:", n, from, to, heads, cut, most, brings, bars)
	}
	if told, e := passage.Brings(n, from, to, heads); told != most || e != api.OK {
		t.Error("a drive brings another number of heads:", n, from, to, heads, told, e)
	}
	if told, e := passage.Bars(n, from, to, cut); told != most || e != api.OK {
		t.Error("a cut bars another number of heads:", n, from, to, cut, told, e)
	}
	return most, narrow
}

// expectDrives reports drives that bring another number of heads, and other narrow ways.
func expectDrives(t *testing.T, cases []driveCase) {
	t.Helper()
	for _, x := range cases {
		most, narrow := driven(t, x.n, x.from, x.to)
		_, least := fewest(x.n, x.from, x.to)
		if most != x.most || least != x.most || !slices.Equal(narrow, x.narrow) || !slices.Equal(narrowOnes(x.n, x.from, x.to), x.narrow) {
			t.Error(x.what, most, narrow, least)
		}
	}
}

// across has a way between two others, along which a drive that is begun badly has to take heads back again.
func across(heads, between int) passage.Net {
	return net(4, track(0, 1, heads), track(1, 2, between), track(2, 3, heads), track(0, 2, heads), track(1, 3, heads))
}

// P9.5, P9.6: what drives bring and cuts bar, and which ways are narrow: heads that have to be taken back, rounds, several
// pastures, ways that bear no heads, and ways that do not count.
func TestDrives(t *testing.T) {
	far := net(6, track(0, 1, 1), track(1, 4, 1), track(4, 5, 1), track(0, 3, 1), track(3, 4, 1), track(1, 2, 1), track(2, 5, 1))
	expectDrives(t, []driveCase{
		{"example 4", pastures(), list(0), list(3), 40, list(1, 4)},
		{"a source more, and no more heads", pastures(), list(0, 2), list(3), 40, list(1, 4)},
		{"a source more on the way", pastures(), list(1), list(3), 40, list(1, 4)},
		{"a goal more", pastures(), list(0), list(1, 3), 50, list(0)},
		{"all posts but one are goals", pastures(), list(0), list(1, 2, 3), 50, list(0)},
		{"two goals behind one way", pastures(), list(0), list(2, 3), 50, list(0)},
		{"all posts are pastures", pastures(), list(0, 1), list(2, 3), 70, list(1, 2)},
		{"against all ways", pastures(), list(3), list(0), 0, nil},
		{"nothing leads to the goal", net(3, track(0, 1, 7)), list(0), list(2), 0, nil},
		{"no ways", net(2), list(0), list(1), 0, nil},
		{"ways that need papers, and take long, and are hardly open", net(2, way(0, 1, 1000, 5, 15, 0, 1000, 1000)), list(0), list(1), 5, list(0)},
		{"a way that bears no heads", net(2, track(0, 1, 0)), list(0), list(1), 0, nil},
		{"a way that bears no heads on the way", net(3, track(0, 1, 5), track(1, 2, 0)), list(0), list(2), 0, nil},
		{"a way that bears no heads beside one that does", net(2, track(0, 1, 0), track(0, 1, 1)), list(0), list(1), 1, list(1)},
		{"two ways between the same posts", net(2, track(0, 1, 3), track(0, 1, 4)), list(0), list(1), 7, list(0, 1)},
		{"two ways to and fro", net(2, track(0, 1, 3), track(1, 0, 4)), list(0), list(1), 3, list(0)},
		{"a way from the goal to the source", net(3, track(0, 1, 3), track(1, 2, 3), track(2, 0, 9), track(2, 1, 9), track(1, 0, 9)), list(0), list(2), 3, list(0, 1)},
		{"ways between sources, and between goals", net(4, track(0, 1, 9), track(1, 0, 9), track(1, 2, 2), track(2, 3, 9), track(3, 2, 9), track(0, 3, 1)), list(0, 1), list(2, 3), 3, list(2, 5)},
		{"from one source through another one", net(3, track(0, 1, 9), track(1, 2, 2)), list(0, 1), list(2), 2, list(1)},
		{"to one goal through another one", net(3, track(0, 1, 2), track(1, 2, 9)), list(0), list(1, 2), 2, list(0)},
		{"heads that have to be taken back", across(1, 1), list(0), list(3), 2, list(0, 2, 3, 4)},
		{"one of many heads that has to be taken back", across(1000, 1), list(0), list(3), 2000, list(0, 2, 3, 4)},
		{"all of many heads that have to be taken back", across(1000, 1000), list(0), list(3), 2000, list(0, 2, 3, 4)},
		{"heads that are taken back twice", far, list(0), list(5), 2, list(0, 2, 3, 4, 5, 6)},
		{"as many as can be", net(2, slices.Repeat([]passage.Way{track(0, 1, 1000)}, 24)...), list(0), list(1), 24000,
			list(0, 1, 2, 3, 4, 5, 6, 7, 8, 9, 10, 11, 12, 13, 14, 15, 16, 17, 18, 19, 20, 21, 22, 23)},
	})
}

// P9.6: narrow ways where several cuts bar the fewest heads, and ways that have one head to spare.
func TestNarrow(t *testing.T) {
	chain := func(heads ...int) passage.Net {
		n := net(len(heads) + 1)
		for post, many := range heads {
			n.Ways = append(n.Ways, track(post, post+1, many))
		}
		return n
	}
	for _, x := range []struct {
		what string
		n    passage.Net
		cuts int // how many cuts bar the fewest
	}{
		{"two ways one behind the other", chain(5, 5), 2},
		{"the second one bears a head more", chain(5, 6), 1},
		{"the second one bears a head less", chain(5, 4), 1},
		{"many ways one behind the other", chain(3, 3, 4, 3, 3, 1000, 3, 3, 3), 7},
		{"all ways one behind the other", chain(1, 1, 1, 1, 1, 1, 1, 1, 1), 9},
		{"two ways, then one", net(3, track(0, 1, 2), track(0, 1, 3), track(1, 2, 5)), 2},
		{"two ways, then one that bears a head more", net(3, track(0, 1, 2), track(0, 1, 3), track(1, 2, 6)), 1},
		{"two ways round", net(4, track(0, 1, 2), track(1, 3, 2), track(0, 2, 3), track(2, 3, 3)), 4},
		{"a way across that is full, and is no matter", across(1, 1), 3},
		{"a way round a full one", net(4, track(0, 1, 4), track(1, 2, 4), track(1, 2, 1), track(2, 3, 4)), 2},
		{"another way round a full one", net(4, track(0, 1, 4), track(1, 2, 4), track(0, 2, 1), track(2, 3, 4)), 1},
		{"a cut that bars nothing", net(4, track(0, 1, 4), track(2, 3, 4)), 1},
	} {
		from, to := list(0), list(x.n.Posts-1)
		cuts, _ := fewest(x.n, from, to)
		_, narrow := driven(t, x.n, from, to)
		if len(cuts) != x.cuts || !slices.Equal(narrow, narrowOnes(x.n, from, to)) {
			t.Error(x.what, len(cuts), narrow)
		}
	}
	_, narrow := driven(t, chain(3, 3, 4, 3, 3, 1000, 3, 3, 3), list(0), list(9))
	if !slices.Equal(narrow, list(0, 1, 3, 4, 6, 7, 8)) {
		t.Error("many ways one behind the other:", narrow)
	}
}

// P9.5: what is a drive, and how many heads it brings.
func TestBrings(t *testing.T) {
	back := net(3, track(0, 1, 9), track(1, 0, 9), track(1, 2, 9), track(2, 1, 9), track(2, 0, 9))
	for _, x := range []struct {
		what            string
		n               passage.Net
		from, to, heads []int
		want            int
		is              bool
	}{
		{"the most of example 4", pastures(), list(0), list(3), list(40, 30, 10, 0, 10), 40, true},
		{"fewer", pastures(), list(0), list(3), list(7, 0, 7, 0, 7), 7, true},
		{"none", pastures(), list(0), list(3), list(0, 0, 0, 0, 0), 0, true},
		{"around a round alone", pastures(), list(0), list(3), list(0, 0, 40, 40, 0), 0, true},
		{"around a round, and on", pastures(), list(0), list(3), list(30, 30, 10, 10, 0), 30, true},
		{"around a round, one head too few", pastures(), list(0), list(3), list(30, 30, 10, 9, 0), 0, false},
		{"one head stays on the way", pastures(), list(0), list(3), list(40, 30, 10, 0, 9), 0, false},
		{"one head comes from nowhere", pastures(), list(0), list(3), list(39, 30, 10, 0, 10), 0, false},
		{"one head too many at one post, one too few at another one", pastures(), list(0), list(3), list(40, 30, 9, 0, 10), 0, false},
		{"from a goal to a source", back, list(0), list(2), list(0, 0, 0, 0, 5), -5, true},
		{"from a goal to a source, over a post", back, list(0), list(2), list(0, 8, 0, 8, 0), -8, true},
		{"to and fro", back, list(0), list(2), list(3, 8, 3, 8, 9), -14, true},
		{"a round over the pastures", back, list(0), list(2), list(9, 0, 9, 0, 9), 0, true},
		{"from one source to another one", back, list(0, 1), list(2), list(9, 2, 4, 0, 0), 4, true},
		{"from one goal to another one", back, list(0), list(1, 2), list(5, 0, 7, 2, 0), 5, true},
		{"sources that nothing leads to, and goals", net(4, track(1, 2, 1)), list(0), list(3), list(0), 0, true},
		{"neither a source nor a goal", net(4, track(1, 2, 1)), list(0), list(3), list(1), 0, false},
		{"from a source to no pasture", net(4, track(1, 2, 1)), list(1), list(3), list(1), 0, false},
		{"from no pasture to a goal", net(4, track(1, 2, 1)), list(0), list(2), list(1), 0, false},
	} {
		want, is := brought(x.n, x.from, x.to, x.heads)
		got, e := passage.Brings(x.n, x.from, x.to, x.heads)
		if is != x.is || want != x.want || got != x.want || (e == api.OK) != x.is || !x.is && e != api.ErrFalse {
			t.Error(x.what, got, e, want, is)
		}
	}
}

// P9.6: how many heads a cut bars.
func TestBars(t *testing.T) {
	for _, x := range []struct {
		what  string
		posts []int
		bars  int
	}{
		{"the source alone", list(0), 50},
		{"with the gate", list(0, 1), 70},
		{"with the customs post, ways into it do not count", list(0, 2), 100},
		{"all but the goal", list(0, 1, 2), 40},
	} {
		if bars, e := passage.Bars(pastures(), list(0), list(3), x.posts); bars != x.bars || barred(pastures(), x.posts) != x.bars || e != api.OK {
			t.Error(x.what, bars, e)
		}
	}
	most := slices.Repeat([]passage.Way{track(0, 1, 1000)}, 24)
	if bars, e := passage.Bars(net(10, most...), list(0), list(1), list(0, 2, 9)); bars != 24000 || e != api.OK {
		t.Error("as many as can be:", bars, e)
	}
}

// P9.5, P9.6: of small nets no drive of all that there are brings more.
func TestDriveBringsMost(t *testing.T) {
	r := rand.New(rand.NewSource(8))
	var ways [2]int // nets of which one drive, or several ones, bring the most heads
	for range 1500 {
		n := anyDriven(r, 6, 7, 1+r.Intn(2))
		from, to := anyPastures(r, n)
		most, _ := driven(t, n, from, to)
		want, by := mostBrought(n, from, to)
		ways[count(by > 1)] += count(want > 0)
		if most != want {
			t.Error("another number of heads:", n, from, to, most, want)
		}
	}
	if min(ways[0], ways[1]) < 150 {
		t.Error("too few nets of some kind were tried:", ways)
	}
}

// P9.5, P9.6: of any nets no cut of all that there are bars fewer heads than the drive brings, and the ways are narrow
// without a head of which some cut bars fewer.
func TestDrivesOfAnyNets(t *testing.T) {
	r := rand.New(rand.NewSource(9))
	var are, several, great int
	for range 2500 {
		n := anyDriven(r, 10, 24, list(1, 3, 30, 1000)[r.Intn(4)])
		from, to := anyPastures(r, n)
		most, narrow := driven(t, n, from, to)
		cuts, least := fewest(n, from, to)
		if want := narrowOnes(n, from, to); most != least || !slices.Equal(narrow, want) {
			t.Error(n, from, to, most, least, narrow, want)
		}
		are, several, great = are+count(len(narrow) > 0), several+count(most > 0 && len(cuts) > 1), great+count(most > 5000)
	}
	if min(are, several) < 300 || great < 20 {
		t.Error("too few nets of some kind were tried:", are, several, great)
	}
}

// someDrive returns numbers of heads that are often a drive: heads go from one post to the next by ways that bear them.
func someDrive(r *rand.Rand, n passage.Net, from, to []int) []int {
	heads := make([]int, len(n.Ways))
	for range r.Intn(5) {
		at := slices.Concat(from, to)[r.Intn(len(from)+len(to))]
		for range 12 * min(1, len(n.Ways)) {
			number := r.Intn(len(n.Ways))
			for range 60 {
				if n.Ways[number].From == at && heads[number] < n.Ways[number].Heads {
					break
				}
				number = r.Intn(len(n.Ways))
			}
			if n.Ways[number].From != at || heads[number] == n.Ways[number].Heads {
				break
			}
			heads[number]++
			at = n.Ways[number].To
			if slices.Contains(from, at) || slices.Contains(to, at) {
				break
			}
		}
	}
	return heads
}

// P9.5: Brings tells of any numbers of heads whether they are a drive, and how many heads that brings.
func TestBringsOfAnyHeads(t *testing.T) {
	r := rand.New(rand.NewSource(10))
	var are, less [2]int
	for range 20000 {
		n := anyDriven(r, 8, 24, list(1, 3, 1000)[r.Intn(3)])
		from, to := anyPastures(r, n)
		heads := someDrive(r, n, from, to)
		want, is := brought(n, from, to, heads)
		brings, e := passage.Brings(n, from, to, heads)
		if is && (brings != want || e != api.OK) || !is && (brings != 0 || e != api.ErrFalse) {
			t.Error(n, from, to, heads, brings, e)
		}
		are[count(is)]++
		less[count(want < 0)]++
	}
	if min(are[0], are[1], less[1]) < 1000 {
		t.Error("too few drives of some kind were tried:", are, less)
	}
}

// P9.6: Bars tells of any posts whether they are a cut, and how many heads that bars.
func TestBarsOfAnyPosts(t *testing.T) {
	r := rand.New(rand.NewSource(11))
	var are [2]int
	for range 20000 {
		n := anyDriven(r, 10, 24, 1000)
		from, to := anyPastures(r, n)
		var posts []int
		for post := range n.Posts {
			if slices.Contains(from, post) && r.Intn(20) > 0 || !slices.Contains(to, post) && r.Intn(2) > 0 || r.Intn(20) == 0 {
				posts = append(posts, post)
			}
		}
		is := isCut(n, from, to, posts)
		bars, e := passage.Bars(n, from, to, posts)
		if is && (bars != barred(n, posts) || e != api.OK) || !is && (bars != 0 || e != api.ErrFalse) {
			t.Error(n, from, to, posts, bars, e)
		}
		are[count(is)]++
	}
	if min(are[0], are[1]) < 2000 {
		t.Error("too few cuts of some kind were tried:", are)
	}
}

package silence_test

import (
	"math/rand"
	"testing"

	"limitrophe/api"
	"limitrophe/silence"
)

// back is a file in which the last paper that is Years or more ahead of the one with which the right arises, the paper 4, is
// five years more ahead of it than Years.
func back() silence.File { return dated(55, 20, 1700, 1715, 1723, 1741, 1760, 1761) }

// near is a file in which the second paper is Years ahead of the one with which the right arises, too, the paper 4.
func near() silence.File { return dated(20, 11, 1, 2, 11, 20, 22) }

// twice is a file of two chains of the North, in each of which a right arises.
func twice() silence.File {
	return dated(30, 20, 1700, 1710, 1720, 1725, 1730, 1735, 1745, -1746, 1747, 1767, 1787)
}

// P11.4: how many papers show a right, in the examples, and in files that are easy to see through.
func TestFewestOfFiles(t *testing.T) {
	for _, x := range []struct {
		what   string
		f      silence.File
		paper  int
		fewest int
	}{
		{"example 1", shown(), 4, 5},
		{"example 2", loose(), 4, 3},
		{"two papers", dated(1, 1, 7, 8), 1, 2},
		{"two of three", dated(1, 1, 7, 8, 9), 1, 2},
		{"from the first paper to the last one", dated(200, 200, 0, 50, 100, 150, 200), 4, 2},
		{"a year more", dated(200, 200, 0, 50, 100, 150, 201), 4, 3},
		{"from the second paper", dated(10, 10, 0, 9, 19), 2, 2},
		{"from far ahead", back(), 4, 5},
		{"two gaps, and a year more", dated(41, 20, 0, 19, 20, 21, 41), 4, 4},
		{"just two gaps", dated(40, 20, 0, 19, 20, 21, 40), 4, 3},
		{"no paper just between", dated(40, 20, 0, 19, 21, 40), 3, 4},
		{"the South's, behind a chain of the North", dated(10, 20, 1, 11, -12, -22), 3, 2},
		{"the first right of two", twice(), 4, 3},
		{"the second right of two", twice(), 10, 3},
		{"not from the first paper on", near(), 4, 3},
		{"all papers", yearly(16), 1, 2},
		{"all papers, and as many years", dated(15, 1, first(yearly(16))...), 15, 16},
	} {
		expectShown(t, x.f, first(x.f), x.paper)
		if got := fewestOf(x.f, first(x.f), x.paper); got != x.fewest {
			t.Error(x.what, got)
		}
	}
}

// expectShown reports papers that are not the fewest ones that show the right which arises with a paper, and windows that do not
// prove so. It returns the windows.
func expectShown(t *testing.T, f silence.File, truth []int, paper int) []int {
	t.Helper()
	fewest, e := silence.Fewest(f, truth, paper)
	if !isShown(f, truth, paper, fewest) || len(fewest) != fewestOf(f, truth, paper) || e != api.OK {
		t.Error("not the fewest papers:", f, truth, paper, fewest, e)
	}
	if is, e := silence.Shows(f, truth, paper, fewest); !is || e != api.OK {
		t.Error("they do not show it:", f, truth, paper, fewest, is, e)
	}
	windows, e := silence.Windows(f, truth, paper)
	if len(windows) != len(fewest)-2 || errorOfWindows(f, truth, paper, windows) != api.OK || e != api.OK {
		t.Error("not windows that prove so:", f, truth, paper, fewest, windows, e)
	}
	if n, e := silence.Proves(f, truth, paper, windows); n != len(fewest) || e != api.OK {
		t.Error("they do not prove so:", f, truth, paper, fewest, windows, n, e)
	}
	return windows
}

// P11.4: which lists show a right.
func TestListsOfFiles(t *testing.T) {
	for _, x := range []struct {
		what  string
		f     silence.File
		paper int
		list  []int
		is    bool
	}{
		{"all papers of example 1", shown(), 4, l(0, 1, 2, 3, 4), true},
		{"one of them less", shown(), 4, l(0, 1, 3, 4), false},
		{"those of example 2", loose(), 4, l(0, 2, 4), true},
		{"more than those", loose(), 4, l(0, 1, 2, 4), true},
		{"all papers of example 2", loose(), 4, l(0, 1, 2, 3, 4), true},
		{"a gap that is too great", loose(), 4, l(0, 3, 4), false},
		{"a gap that is too great ahead of the paper", loose(), 4, l(0, 1, 4), false},
		{"the first one alone is not far enough ahead", loose(), 4, l(1, 2, 4), false},
		{"without the paper", loose(), 4, l(0, 2, 3), false},
		{"a paper twice", loose(), 4, l(0, 2, 2, 4), false},
		{"the paper twice", loose(), 4, l(0, 2, 4, 4), false},
		{"out of order", loose(), 4, l(0, 3, 2, 4), false},
		{"the other way round", loose(), 4, l(4, 2, 0), false},
		{"out of order at the start", loose(), 4, l(2, 0, 4), false},
		{"the paper alone", loose(), 4, l(4), false},
		{"one paper", loose(), 4, l(0), false},
		{"nothing", loose(), 4, nil, false},
		{"the first right of two", twice(), 4, l(0, 2, 4), true},
		{"the second right of two", twice(), 10, l(8, 9, 10), true},
		{"a paper behind the one with which it arises", twice(), 4, l(0, 2, 4, 5), false},
		{"a paper behind it between", twice(), 4, l(0, 2, 5, 4), false},
		{"papers of another chain", twice(), 4, l(8, 9, 10), false},
		{"ends with another paper, far enough behind the first one", twice(), 4, l(0, 2, 5), false},
		{"a paper of the other side between", dated(15, 15, 10, -15, 20, 35), 3, l(1, 2, 3), false},
		{"a paper of a chain ahead", dated(15, 15, 10, -15, 20, 35), 3, l(0, 2, 3), false},
		{"without these", dated(15, 15, 10, -15, 20, 35), 3, l(2, 3), true},
		{"a paper of a chain ahead, which a gap has ended", dated(15, 15, 4, 20, 35), 2, l(0, 1, 2), false},
		{"begins with the second paper", dated(10, 10, 0, 9, 10, 19), 2, l(0, 2), true},
		{"begins with a paper that is just far enough", near(), 4, l(1, 2, 4), true},
		{"begins with the first one", near(), 4, l(0, 2, 4), true},
		{"begins with a paper that is not far enough", near(), 4, l(2, 4), false},
		{"a year too near", dated(20, 11, 1, 3, 11, 20, 22), 4, l(1, 2, 4), false},
		{"a gap of a year more", dated(20, 10, 1, 2, 11, 20, 22), 4, l(1, 2, 4), false},
	} {
		truth := first(x.f)
		if is, e := silence.Shows(x.f, truth, x.paper, x.list); is != x.is || is != isShown(x.f, truth, x.paper, x.list) || e != api.OK {
			t.Error(x.what, is, e)
		}
	}
}

// P11.4: what windows prove.
func TestWindowsOfFiles(t *testing.T) {
	for _, x := range []struct {
		what    string
		f       silence.File
		paper   int
		windows []int
		n       int
		e       api.Errno
	}{
		{"those of example 1", shown(), 4, l(1700, 1715, 1730), 5, api.OK},
		{"that of example 2", loose(), 4, l(1715), 3, api.OK},
		{"no windows", shown(), 4, nil, 2, api.OK},
		{"fewer of example 1", shown(), 4, l(1700, 1730), 4, api.OK},
		{"years of no papers", shown(), 4, l(1705, 1720, 1735), 5, api.OK},
		{"the last years that do", shown(), 4, l(1709, 1724, 1739), 5, api.OK},
		{"a year later the last one has the paper itself", shown(), 4, l(1709, 1724, 1740), 0, api.ErrFalse},
		{"a year later the second one shares a paper", shown(), 4, l(1709, 1725, 1739), 0, api.ErrFalse},
		{"a year later the first one shares a paper", shown(), 4, l(1710, 1724, 1739), 0, api.ErrFalse},
		{"the least year that is allowed", back(), 4, l(1700, 1715, 1723), 5, api.OK},
		{"just below it", back(), 4, l(1699, 1715, 1723), 0, api.ErrValue},
		{"a window that has the paper itself alone", shown(), 4, l(1750), 0, api.ErrFalse},
		{"the last year that is allowed", shown(), 4, l(1759), 0, api.ErrFalse},
		{"two windows share a paper", loose(), 4, l(1700, 1714), 0, api.ErrFalse},
		{"the last paper of the first window is the first one of the second", loose(), 4, l(1700, 1729), 0, api.ErrFalse},
		{"two windows that overlap where no paper is", dated(40, 20, 0, 10, 25, 40), 3, l(0, 10), 4, api.OK},
		{"two windows alike", dated(40, 20, 0, 10, 25, 40), 3, l(0, 4), 0, api.ErrFalse},
		{"the last two of three windows share a paper", shown(), 4, l(1700, 1715, 1720), 0, api.ErrFalse},
		{"each two of three windows share a paper", shown(), 4, l(1700, 1701, 1702), 0, api.ErrFalse},
		{"papers of the other chain do not count", twice(), 10, l(1747), 3, api.OK},
		{"a window behind the first right", twice(), 4, l(1735), 0, api.ErrValue},
		{"a paper behind the one with which it arises is in a window", back(), 4, l(1741), 0, api.ErrFalse},
		{"from the last paper that is far enough, not from the first one", near(), 4, l(2), 3, api.OK},
		{"a year below the last paper that is far enough", near(), 4, l(1), 0, api.ErrValue},
	} {
		truth := first(x.f)
		n, e := silence.Proves(x.f, truth, x.paper, x.windows)
		if n != x.n || e != x.e || e != errorOfWindows(x.f, truth, x.paper, x.windows) {
			t.Error(x.what, n, e)
		}
	}
}

// P11.4: the fewest papers are those of all lists, and windows prove so.
func TestFewestOfAllLists(t *testing.T) {
	r := rand.New(rand.NewSource(6))
	var proved [17]int
	for range 4000 {
		f, truth, paper := anyRight(r, 12)
		proved[len(expectShown(t, f, truth, paper))]++
	}
	if min(proved[0], proved[1], proved[2], proved[3]) < 120 || proved[4] < 30 {
		t.Error("too few files of some kind were tried:", proved)
	}
}

// P11.4: no windows of all prove more than there are papers that show it.
func TestWindowsOfAllWindows(t *testing.T) {
	r := rand.New(rand.NewSource(7))
	var proved [17]int
	for range 8000 {
		f, truth, paper := anyRight(r, 9)
		if truth[paper]-truth[startOf(f, truth, paper)] > 16 {
			continue
		}
		most, _ := mostWindows(f, truth, paper)
		if windows := expectShown(t, f, truth, paper); len(windows) != most {
			t.Error("other windows prove more:", f, truth, paper, windows, most)
		}
		proved[most]++
	}
	if min(proved[0], proved[1], proved[2]) < 150 || proved[3] < 30 {
		t.Error("too few files of some kind were tried:", proved)
	}
}

// P11.4: of any lists it is told whether they show a right, and of any windows what they prove; no list has fewer papers.
func TestAnyListsAndWindows(t *testing.T) {
	r := rand.New(rand.NewSource(8))
	var shown, not, tight int
	told := map[api.Errno]int{}
	for range 30000 {
		f, truth, paper := anyRight(r, 16)
		list, windows := anyList(r, f, truth, paper), anyWindows(r, f, truth, paper)
		is, e := silence.Shows(f, truth, paper, list)
		if is != isShown(f, truth, paper, list) || e != api.OK {
			t.Error("not what the words say:", f, truth, paper, list, is, e)
		}
		shown, not = shown+count(is), not+count(!is)
		n, e := silence.Proves(f, truth, paper, windows)
		want := 0
		if e == api.OK {
			want = len(windows) + 2
		}
		if e != errorOfWindows(f, truth, paper, windows) || n != want {
			t.Error("they prove something else:", f, truth, paper, windows, n, e)
		}
		told[e]++
		if is && n > len(list) {
			t.Error("a list has fewer papers than windows prove:", f, truth, paper, list, windows, n)
		}
		tight += count(is && n == len(list) && n > 2)
	}
	if min(shown, not, told[api.OK], told[api.ErrFalse]) < 5000 || min(told[api.ErrValue], tight) < 700 {
		t.Error("too few lists or windows of some kind were tried:", shown, not, told, tight)
	}
}

// P11.4: each window of an allowed year has a paper of the chain; those of years that have none are not allowed.
func TestNoWindowIsEmpty(t *testing.T) {
	r := rand.New(rand.NewSource(9))
	empty := 0
	for range 2000 {
		f, truth, paper := anyRight(r, 16)
		for window := truth[startOf(f, truth, paper)] - 3; window < truth[paper]+3; window++ {
			_, e := silence.Proves(f, truth, paper, l(window))
			if len(windowOf(f, truth, paper, window)) > 0 {
				continue
			}
			if e != api.ErrValue {
				t.Error("a window that has no paper:", f, truth, paper, window, e)
			}
			empty++
		}
	}
	if empty < 1000 {
		t.Error("too few windows were tried:", empty)
	}
}

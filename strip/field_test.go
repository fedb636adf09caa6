package strip_test

import (
	"math"
	"slices"
	"testing"

	"limitrophe/api"
	"limitrophe/strip"
)

// field makes a field.
func field(x, x2, y, y2 int) strip.Field {
	return strip.Field{X: api.Span{Lo: x, Hi: x2}, Y: api.Span{Lo: y, Hi: y2}}
}

func TestCount(t *testing.T) {
	for _, x := range []struct {
		what  string
		l     strip.Line
		f     strip.Field
		posts strip.Posts
		e     api.Errno
	}{
		{"example 3", slope(), field(5, 6, 1, 3), strip.Posts{Outer: 2, Inner: 2, Strip: 2}, api.OK},
		{"a line that is known", slope(), field(19, 20, 3, 5), strip.Posts{Outer: 2, Inner: 2, On: 2}, api.OK},
		{"a closed line", square(), field(-2, 2, 0, 2), strip.Posts{Outer: 4, Inner: 3, Strip: 8}, api.OK},
		{"a flat hull", flat(), field(0, 7, 0, 0), strip.Posts{On: 4, Strip: 4}, api.OK},
		{"one point", slope(), field(6, 6, 3, 3), strip.Posts{Inner: 1}, api.OK},
		{"100 times 100 points", slope(), field(-10000, -9901, 9901, 10000), strip.Posts{Inner: 10000}, api.OK},
		{"10000 points in a row", slope(), field(-5000, 4999, -9, -9), strip.Posts{Outer: 10000}, api.OK},
		{"73 times 137 points", slope(), field(1, 73, 1, 137), strip.Posts{}, api.ErrLarge},
		{"all points", slope(), field(-10000, 10000, -10000, 10000), strip.Posts{}, api.ErrLarge},
		{"the X the wrong way round", slope(), field(1, 0, -10000, 10000), strip.Posts{}, api.ErrValue},
		{"the Y the wrong way round", slope(), field(-10000, 10000, 1, 0), strip.Posts{}, api.ErrValue},
		{"too far west", slope(), field(-10001, 10000, 0, 10000), strip.Posts{}, api.ErrValue},
		{"too far east", slope(), field(0, 10001, 0, 0), strip.Posts{}, api.ErrValue},
		{"too far south", slope(), field(0, 0, -10001, 0), strip.Posts{}, api.ErrValue},
		{"too far north", slope(), field(0, 0, 0, 10001), strip.Posts{}, api.ErrValue},
		{"the greatest numbers", slope(), field(math.MinInt, math.MaxInt, math.MinInt, math.MaxInt), strip.Posts{}, api.ErrValue},
	} {
		posts, e := strip.Count(x.l, x.f)
		if posts != x.posts || e != x.e {
			t.Error(x.what, posts, e)
		}
	}
}

func TestMeets(t *testing.T) {
	for _, x := range []struct {
		what string
		l    strip.Line
		a, b api.Point
		want []int
		e    api.Errno
	}{
		{"example 3, south of the line", slope(), at(6, 0), at(6, 1), nil, api.OK},
		{"example 3, to the strip", slope(), at(6, 0), at(6, 2), list(1), api.OK},
		{"example 3, through the first box", slope(), at(1, -5), at(1, 5), list(0, 1), api.OK},
		{"the other way", slope(), at(6, 2), at(6, 0), list(1), api.OK},
		{"a road from a point to itself", slope(), at(6, 2), at(6, 2), list(1), api.OK},
		{"such a road where nothing is", slope(), at(6, 3), at(6, 3), nil, api.OK},
		{"such a road on a pillar", slope(), at(10, 4), at(10, 4), list(1, 2), api.OK},
		{"a road that touches a corner", slope(), at(10, 4), at(0, 9), list(1, 2), api.OK},
		{"a road along an edge", slope(), at(0, 1), at(10, 4), list(0, 1, 2), api.OK},
		{"a road beside that edge", slope(), at(0, 2), at(10, 5), nil, api.OK},
		{"a road in line with the end", slope(), at(9000, 4), at(10000, 4), list(2), api.OK},
		{"a road along the whole line", slope(), at(-10000, 0), at(10000, 4), list(0, 1, 2), api.OK},
		{"a road across from far away", slope(), at(-10000, -10000), at(-10000, 10000), list(0), api.OK},
		{"a road inside", square(), at(5, 5), at(15, 15), nil, api.OK},
		{"a road out", square(), at(5, 5), at(25, 5), list(1), api.OK},
		{"a road through", square(), at(-5, 10), at(25, 10), list(1, 3), api.OK},
		{"a road through all", square(), at(-5, -5), at(25, 25), list(0, 1, 2, 3), api.OK},
		{"a road within a hull", square(), at(0, 0), at(1, 0), list(0, 3), api.OK},
		{"a road along a flat hull", flat(), at(-3, 0), at(12, 0), list(0, 1, 2), api.OK},
		{"a road in line with it, that ends before", flat(), at(-3, 0), at(-1, 0), nil, api.OK},
		{"a hull of one place", closed(stone(5, 5), stone(5, 5), stone(5, 5)), at(3, 3), at(9, 9), list(0, 1, 2), api.OK},
		{"beside a hull of one place", closed(stone(5, 5), stone(5, 5), stone(5, 5)), at(3, 3), at(9, 8), nil, api.OK},
		{"in line with a hull of one place", closed(stone(5, 5), stone(5, 5), stone(5, 5)), at(6, 6), at(9, 9), nil, api.OK},
		{"a beginning too far away", slope(), at(0, 10001), at(0, 0), nil, api.ErrValue},
		{"an end too far away", slope(), at(0, 0), at(-10001, 0), nil, api.ErrValue},
	} {
		met, e := strip.Meets(x.l, x.a, x.b)
		if !slices.Equal(met, x.want) || e != x.e {
			t.Error(x.what, met, e)
		}
	}
}

package code

import (
	"testing"

	"thicket/api"
)

// Programs, and what they are tidied to.
func TestTidy(t *testing.T) {
	for _, c := range []struct {
		what    string
		p, want []api.Op
	}{
		{"an end", []api.Op{end()}, []api.Op{end()}},
		{"ends", []api.Op{end(), end(), end()}, []api.Op{end()}},
		{"a jump", []api.Op{leap(1), end()}, []api.Op{end()}},
		{"jumps to jumps", []api.Op{leap(2), plus(0, 1), leap(3), leap(4), end()}, []api.Op{end()}},
		{"additions of 0", []api.Op{plus(0, 0), plus(1, 0), plus(0, 1), plus(1, 0), end()}, []api.Op{plus(0, 1), end()}},
		{"an addition of 0, and a jump", []api.Op{plus(0, 0), leap(3), plus(0, 5), plus(0, 0), plus(0, 7), end()}, []api.Op{plus(0, 7), end()}},
		{"what is never reached", []api.Op{plus(0, 1), leap(4), plus(0, 2), test(0, 1, left, 4), plus(0, 3), end()}, []api.Op{plus(0, 1), plus(0, 3), end()}},
		{"an end in the middle", []api.Op{plus(0, 1), end(), plus(0, 2), end()}, []api.Op{plus(0, 1), end()}},
		{"an end in the middle that is passed", []api.Op{test(0, 1, left, 2), end(), plus(0, 2), end()}, []api.Op{test(0, 1, left, 2), end(), plus(0, 2), end()}},
		{"an end that is jumped to", []api.Op{test(0, 1, left, 3), plus(0, 1), leap(4), end(), plus(0, 2), end()}, []api.Op{test(0, 1, left, 3), plus(0, 1), leap(4), end(), plus(0, 2), end()}},
		{"two ends stay two", []api.Op{test(0, 1, left, 2), end(), end()}, []api.Op{test(0, 1, left, 2), end(), end()}},
		{"a test whose both ways are one", []api.Op{test(0, 1, left, 1), end()}, []api.Op{test(0, 1, left, 1), end()}},
		{"a test whose both ways land at one place", []api.Op{test(0, 1, right, 3), plus(0, 0), leap(4), plus(1, 0), plus(0, 5), end()}, []api.Op{test(0, 1, right, 1), plus(0, 5), end()}},
		{"categories whose both ways land at one place", []api.Op{in(0, right, 3, 1, 4), plus(0, 0), leap(4), plus(1, 0), plus(0, 5), end()}, []api.Op{in(0, right, 1, 1, 4), plus(0, 5), end()}},
		{"both ways land far off", []api.Op{test(0, 1, left, 5), test(1, 1, left, 4), leap(5), plus(0, 9), plus(0, 3), leap(7), plus(0, 8), plus(0, 4), end()},
			[]api.Op{test(0, 1, left, 4), test(1, 1, left, 3), leap(4), plus(0, 3), plus(0, 4), end()}},
		{"a jump that must stay", []api.Op{test(0, 1, left, 3), plus(0, 1), leap(4), plus(0, 2), end()}, []api.Op{test(0, 1, left, 3), plus(0, 1), leap(4), plus(0, 2), end()}},
		{"a jump behind a test", []api.Op{test(0, 1, left, 2), leap(3), plus(0, 2), end()}, []api.Op{test(0, 1, left, 2), leap(3), plus(0, 2), end()}},
		{"a jump over what is dropped", []api.Op{test(0, 1, left, 5), plus(0, 1), leap(6), plus(0, 9), plus(0, 8), plus(0, 0), end()}, []api.Op{test(0, 1, left, 2), plus(0, 1), end()}},
		{"a jump at first", []api.Op{leap(2), end(), plus(0, 3), end()}, []api.Op{plus(0, 3), end()}},
		{"an addition of 0 at first", []api.Op{plus(0, 0), test(0, 1, left, 2), end()}, []api.Op{test(0, 1, left, 1), end()}},
		{"jumps to an addition of 0", []api.Op{test(0, 1, left, 3), plus(0, 1), leap(4), plus(0, 2), plus(0, 0), leap(7), plus(0, 6), plus(0, 5), end()}, []api.Op{test(0, 1, left, 3), plus(0, 1), leap(4), plus(0, 2), plus(0, 5), end()}},
		{"what goes on at two places", []api.Op{test(0, 0, left, 4), plus(0, 1), test(1, 0, right, 6), leap(5), plus(1, 2), plus(1, 3), plus(0, 4), end()},
			[]api.Op{test(0, 0, left, 4), plus(0, 1), test(1, 0, right, 6), leap(5), plus(1, 2), plus(1, 3), plus(0, 4), end()}},
	} {
		p, want := program(2, 2, c.p...), program(2, 2, c.want...)
		q, why := Tidy(p)
		isCode(t, "19.4: "+c.what, q, why, want)
		isCode(t, "19.4: the second opinion: "+c.what, tidyByWords(p), api.OK, want)
		again, why := Tidy(q)
		isCode(t, "19.9: again: "+c.what, again, why, want)
		holds(t, c.what, p, [][]float64{{0, 0}, {2, 0}, {0, 2}, {2, 2}, {nan, nan}, {1, nan}, {4, 1}})
	}
}

// A program may be a long row of jumps, or of additions of 0: landing takes no nested calls.
func TestTidyLong(t *testing.T) {
	const n = 1 << 18
	for _, odd := range []func(i int) api.Op{
		func(i int) api.Op { return leap(i + 1) }, func(int) api.Op { return plus(0, 0) }, func(int) api.Op { return plus(0, 1) }, func(i int) api.Op { return test(0, 1, left, n-1) }, func(i int) api.Op { return test(0, 1, left, i+1) },
	} {
		p := program(1, 1)
		for i := range n - 1 {
			p.Ops = append(p.Ops, odd(i))
		}
		p.Ops = append(p.Ops, end())
		q, why := Tidy(p)
		kind := p.Ops[0].Kind
		stays := kind == api.OpTest || p.Ops[0].Value == 1
		if why != api.OK || stays != (len(q.Ops) == n) || !stays && len(q.Ops) != 1 {
			t.Errorf("19.4: a row of kind %d: %d operations, %d", kind, len(q.Ops), why)
		}
	}
}

package code

import (
	"math"
	"slices"

	"thicket/api"
)

// isRight tells whether the operation of that number may be so, where it stands.
func isRight(p *api.Program, i int) bool {
	o := &p.Ops[i]
	if !sameOps(*o, bare(o)) {
		return false
	}
	ahead := o.To > i && o.To < len(p.Ops)
	switch o.Kind {
	case api.OpTest:
		return isAsked(p, o) && !math.IsNaN(o.Threshold) && ahead
	case api.OpIn:
		return isAsked(p, o) && areCats(o.Cats) && ahead
	case api.OpAdd:
		return o.Output >= 0 && o.Output < p.Outputs && i < len(p.Ops)-1
	case api.OpJump:
		return ahead
	}
	return o.Kind == api.OpEnd
}

// bare is an operation without what its kind does not use: so it is the same as itself, if nothing of that is set.
func bare(o *api.Op) api.Op {
	switch o.Kind {
	case api.OpTest:
		return api.Op{Kind: o.Kind, Feature: o.Feature, Threshold: o.Threshold, Missing: o.Missing, To: o.To}
	case api.OpIn:
		return api.Op{Kind: o.Kind, Feature: o.Feature, Cats: o.Cats, Missing: o.Missing, To: o.To}
	case api.OpAdd:
		return add(o.Output, o.Value)
	case api.OpJump:
		return jump(o.To)
	}
	return api.Op{Kind: o.Kind}
}

func add(output int, v int64) api.Op { return api.Op{Kind: api.OpAdd, Output: output, Value: v} }

func jump(to int) api.Op { return api.Op{Kind: api.OpJump, To: to} }

// sameOps tells whether all fields are the same; thresholds by their bits, so that -0 is not 0 and a NaN is itself.
func sameOps(a, b api.Op) bool {
	return a.Kind == b.Kind && a.Feature == b.Feature && math.Float64bits(a.Threshold) == math.Float64bits(b.Threshold) && slices.Equal(a.Cats, b.Cats) &&
		a.Missing == b.Missing && a.Output == b.Output && a.Value == b.Value && a.To == b.To
}

// isTest tells whether an operation has two ways to go on.
func isTest(o *api.Op) bool { return o.Kind == api.OpTest || o.Kind == api.OpIn }

// isAsked tells whether a test's feature is one, and a NaN has a way to go.
func isAsked(p *api.Program, o *api.Op) bool {
	return o.Feature >= 0 && o.Feature < p.Features && (o.Missing == api.SideLeft || o.Missing == api.SideRight)
}

// areCats tells whether there are some, they rise, and none is beyond the limit.
func areCats(l []int) bool {
	for i, c := range l {
		if c < 0 || c >= api.MaxCats || i > 0 && c <= l[i-1] {
			return false
		}
	}
	return len(l) > 0
}

// refusal is what is wrong with a program, or with a vector for it.
func refusal(p api.Program, x []float64) api.Errno {
	if why, _ := Check(p); why != api.OK {
		return why
	}
	if len(x) != p.Features {
		return api.ErrVector
	}
	return api.OK
}

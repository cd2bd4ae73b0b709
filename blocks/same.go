package blocks

import (
	"math"
	"slices"

	"thicket/api"
)

// Same tells whether two forms are one; Copy is a form of its own memory.
func Same(a, b api.Form) bool {
	return a.Features == b.Features && a.Outputs == b.Outputs && slices.Equal(a.Base, b.Base) && slices.EqualFunc(a.Blocks, b.Blocks, sameBlocks)
}

func sameBlocks(a, b api.Block) bool {
	return a.First == b.First && slices.Equal(a.Leaves, b.Leaves) && slices.EqualFunc(a.Values, b.Values, slices.Equal[[]int64]) &&
		slices.Equal(a.Outputs, b.Outputs) && slices.EqualFunc(a.Lists, b.Lists, sameLists)
}

func sameLists(a, b api.List) bool {
	return a.Feature == b.Feature && slices.EqualFunc(a.Numbers, b.Numbers, sameCuts) && slices.EqualFunc(a.Cats, b.Cats, sameCuts) && slices.EqualFunc(a.Lost, b.Lost, sameCuts)
}

func sameCuts(a, b api.Cut) bool {
	return math.Float64bits(a.Threshold) == math.Float64bits(b.Threshold) && slices.Equal(a.Cats, b.Cats) && a.Tree == b.Tree && a.From == b.From && a.To == b.To
}

func Copy(f api.Form) api.Form {
	f.Base = copyOf(f.Base)
	f.Blocks = copyEach(f.Blocks, copyBlock)
	return f
}

func copyBlock(b api.Block) api.Block {
	b.Leaves, b.Outputs = copyOf(b.Leaves), copyOf(b.Outputs)
	b.Values = copyEach(b.Values, copyOf[int64])
	b.Lists = copyEach(b.Lists, copyList)
	return b
}

func copyList(l api.List) api.List {
	l.Numbers, l.Cats, l.Lost = copyEach(l.Numbers, copyCut), copyEach(l.Cats, copyCut), copyEach(l.Lost, copyCut)
	return l
}

func copyCut(c api.Cut) api.Cut {
	c.Cats = copyOf(c.Cats)
	return c
}

// copyOf is a list of its own memory, nil of an empty one: what slices.Clone makes of that would keep the place of its room.
func copyOf[T any](l []T) []T { return append([]T(nil), l...) }

// copyEach is a list of its own memory, each of its items copied too.
func copyEach[T any](l []T, item func(T) T) []T {
	var out []T
	for _, one := range l {
		out = append(out, item(one))
	}
	return out
}

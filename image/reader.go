package image

import (
	"math"

	"thicket/api"
)

// reader reads items from the left, up to the first one at fault: there it stays, and whatever is read then is zero.
type reader struct {
	bytes []byte
	at    int
	bad   bool
}

// items are so many of a kind, read by a method of the reader. Their list grows with them: a count alone takes no memory.
func items[T any](r *reader, many int, item func() T) []T {
	var l []T
	for range many {
		one := item()
		if r.bad {
			return nil
		}
		l = append(l, one)
	}
	return l
}

func (r *reader) form() api.Form {
	f := api.Form{Features: r.count(), Outputs: r.count()}
	f.Base = items(r, f.Outputs, r.number)
	f.Blocks = items(r, r.things(), r.block)
	first := 0
	for i, b := range f.Blocks {
		f.Blocks[i].First = first
		first += len(b.Leaves)
	}
	return f
}

func (r *reader) block() api.Block {
	var b api.Block
	for _, t := range items(r, r.things(), r.tree) {
		b.Outputs = append(b.Outputs, t.output)
		b.Leaves = append(b.Leaves, len(t.values))
		b.Values = append(b.Values, t.values)
	}
	b.Lists = items(r, r.things(), r.list)
	return b
}

// grown is a tree as a block has it, without its inner nodes.
type grown struct {
	output int
	values []int64
}

func (r *reader) tree() grown {
	output := r.count()
	return grown{output: output, values: items(r, r.things(), r.number)}
}

func (r *reader) list() api.List {
	feature := r.count()
	numbers := items(r, r.things(), r.numberCut)
	cats := items(r, r.things(), r.catsCut)
	return api.List{Feature: feature, Numbers: plainCuts(numbers), Cats: plainCuts(cats), Lost: lostCuts(append(numbers, cats...))}
}

func (r *reader) numberCut() marked {
	v := math.Float64frombits(r.word())
	m := r.tail()
	m.Threshold = v
	return m
}

func (r *reader) catsCut() marked {
	cats := items(r, r.things(), r.count)
	for i := 1; i < len(cats); i++ {
		cats[i] += cats[i-1] // what would wrap stands behind one that is too great already, so the form is not right anyway
	}
	m := r.tail()
	m.Cats = cats
	return m
}

func (r *reader) tail() marked {
	c := api.Cut{Tree: r.count(), From: r.count(), To: r.count()}
	return marked{Cut: c, lost: r.mark()}
}

func (r *reader) count() int { return int(r.natural(maxCount)) }

// things is a count of what takes a byte each at least, behind it.
func (r *reader) things() int {
	at := r.at
	n := r.count()
	if n > len(r.bytes)-r.at {
		r.at, r.bad = at, true
		return 0
	}
	return n
}

func (r *reader) number() int64 {
	v := r.natural(math.MaxUint64)
	if v&1 == 1 {
		return -1 - int64(v>>1)
	}
	return int64(v >> 1)
}

// natural is a natural of at most most, seven binary digits a byte, the lowest first.
func (r *reader) natural(most uint64) uint64 {
	if r.bad {
		return 0
	}
	var v uint64
	for i, c := range r.bytes[r.at:] {
		digits := uint64(c &^ 128)
		if i > 9 || i == 9 && digits > 1 { // 2^64 or more, or a needless byte further on
			break
		}
		v |= digits << (7 * i)
		if c >= 128 {
			continue
		}
		if c == 0 && i > 0 || v > most {
			break
		}
		r.at += i + 1
		return v
	}
	r.bad = true
	return 0
}

// word is eight bytes, the highest first.
func (r *reader) word() uint64 {
	if r.bad || len(r.bytes)-r.at < wordSize {
		r.bad = true
		return 0
	}
	r.at += wordSize
	return wordOf(r.bytes[r.at-wordSize:])
}

func wordOf(b []byte) uint64 {
	var v uint64
	for _, c := range b[:wordSize] {
		v = v<<8 | uint64(c)
	}
	return v
}

// mark is a byte that is 0 or 1.
func (r *reader) mark() bool {
	if r.bad || r.at == len(r.bytes) || r.bytes[r.at] > 1 {
		r.bad = true
		return false
	}
	r.at++
	return r.bytes[r.at-1] == 1
}

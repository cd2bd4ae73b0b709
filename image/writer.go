package image

import (
	"math"

	"thicket/api"
)

// writer writes the items of a right form.
type writer struct{ bytes []byte }

// listed writes how many items there are, and each of them by a method of the writer.
func listed[T any](w *writer, l []T, item func(T)) {
	w.count(len(l))
	for _, one := range l {
		item(one)
	}
}

func (w *writer) form(f api.Form) {
	w.count(f.Features)
	w.count(f.Outputs)
	for _, v := range f.Base { // as many as there are outputs
		w.number(v)
	}
	listed(w, f.Blocks, w.block)
}

func (w *writer) block(b api.Block) {
	w.count(len(b.Values))
	for i, l := range b.Values {
		w.count(b.Outputs[i])
		listed(w, l, w.number)
	}
	listed(w, b.Lists, w.list)
}

func (w *writer) list(l api.List) {
	w.count(l.Feature)
	listed(w, markCuts(l.Numbers, l.Lost), w.numberCut)
	listed(w, markCuts(l.Cats, l.Lost), w.catsCut)
}

func (w *writer) numberCut(m marked) {
	w.word(math.Float64bits(m.Threshold))
	w.tail(m)
}

func (w *writer) catsCut(m marked) {
	w.count(len(m.Cats))
	ahead := 0
	for _, c := range m.Cats {
		w.count(c - ahead)
		ahead = c
	}
	w.tail(m)
}

func (w *writer) tail(m marked) {
	w.count(m.Tree)
	w.count(m.From)
	w.count(m.To)
	if m.lost {
		w.bytes = append(w.bytes, 1)
	} else {
		w.bytes = append(w.bytes, 0)
	}
}

// count writes a count, which is not below nought in a right form.
func (w *writer) count(n int) { w.natural(uint64(n)) }

// number writes a number: twice its amount, or one less than that of one below nought.
func (w *writer) number(v int64) {
	if v < 0 {
		w.natural(uint64(-1-v)<<1 | 1)
	} else {
		w.natural(uint64(v) << 1)
	}
}

func (w *writer) natural(v uint64) {
	for ; v >= 128; v >>= 7 {
		w.bytes = append(w.bytes, byte(v)|128)
	}
	w.bytes = append(w.bytes, byte(v))
}

// word writes eight bytes, the highest first.
func (w *writer) word(v uint64) {
	for i := wordSize - 1; i >= 0; i-- {
		w.bytes = append(w.bytes, byte(v>>(8*i)))
	}
}

package front

import (
	"strconv"
	"strings"

	"thicket/api"
	"thicket/blocks"
	"thicket/cascade"
	"thicket/cells"
	"thicket/code"
	"thicket/explain"
	"thicket/fixed"
	"thicket/floats"
	"thicket/image"
	"thicket/learn"
	"thicket/limbs"
	"thicket/patch"
	"thicket/rank"
	"thicket/slim"
	"thicket/text"
)

// line is what stands ahead, and a line of words with a blank between.
func line(ahead []byte, words ...string) []byte {
	return append(append(ahead, strings.Join(words, " ")...), '\n')
}

// told is each item of a list as a word.
func told[T any](l []T, say func(T) string) []string {
	var words []string
	for _, v := range l {
		words = append(words, say(v))
	}
	return words
}

func printed(e api.Ensemble) []byte {
	s, why := text.Print(e)
	must(why)
	return []byte(s)
}

func (t *task) check() []byte { return line(nil, "ok") }

func (t *task) dump() []byte { return printed(t.models[0]) }

func (t *task) slim() []byte {
	e, why := slim.Slim(t.models[0])
	must(why)
	return printed(e)
}

func (t *task) merge() []byte {
	e, why, at := patch.Merge(t.models[0], t.models[1], t.models[2])
	must(why, "at", strconv.Itoa(at))
	return printed(e)
}

func (t *task) code() []byte {
	p, why := code.Compile(t.models[0])
	must(why)
	if t.isYes("tidy") {
		p, why = code.Tidy(p)
		must(why)
	}
	s, why := code.Print(p)
	must(why)
	return []byte(s)
}

func (t *task) image() []byte {
	b, why := image.Encode(t.form())
	must(why)
	return b
}

// form is the model, compiled.
func (t *task) form() api.Form {
	f, why := blocks.Compile(t.models[0], t.count("block"))
	must(why)
	return f
}

func (t *task) score() []byte {
	var out []byte
	for _, sums := range t.scores() {
		out = line(out, told(sums, fixed.Print)...)
	}
	return out
}

func (t *task) class() []byte {
	var out []byte
	for _, x := range t.vectors {
		output, many, why := cascade.Class(t.models[0], x)
		must(why)
		out = line(out, strconv.Itoa(output), strconv.Itoa(many))
	}
	return out
}

func (t *task) reasons() []byte {
	var out []byte
	for _, x := range t.vectors {
		l, why := explain.Reasons(t.models[0], x)
		must(why)
		for _, reason := range l {
			out = line(out, reason)
		}
		out = line(out)
	}
	return out
}

func (t *task) top() []byte {
	l, _, why := cascade.Top(t.models[0], t.vectors, t.count("output"), t.count("k"))
	must(why)
	return line(nil, told(l, strconv.Itoa)...)
}

func (t *task) rank() []byte {
	output := t.count("output")
	if output >= t.models[0].Outputs {
		must(api.ErrRange)
	}
	scores, hit := make([]int64, len(t.vectors)), make([]bool, len(t.vectors))
	for i, sums := range t.scores() {
		scores[i], hit[i] = sums[output], t.labels[i] > 0
	}
	auc, why := rank.Auc(scores, hit)
	must(why)
	average, why := rank.Average(scores, hit)
	must(why)
	return line(line(nil, "auc", quotient(auc)), "average", quotient(average))
}

func quotient(r api.Ratio) string {
	s, why := limbs.Write(r)
	must(why)
	return s
}

func (t *task) equal() []byte {
	same, x, why := cells.Equal(t.models[0], t.models[1])
	must(why)
	if same {
		return line(nil, "equal")
	}
	return line(nil, append([]string{"differ"}, told(x, floats.Shortest)...)...)
}

func (t *task) learn() []byte {
	targets := make([]int64, len(t.labels))
	for i, label := range t.labels {
		target, why := fixed.Nearest(label)
		must(why)
		targets[i] = target
	}
	e, why := learn.Fit(t.vectors, targets, api.Lesson{
		Trees: t.count("trees"),
		Deep:  t.count("deep"),
		Least: t.count("least"),
		Num:   int64(t.count("num")),
		Den:   int64(t.count("den")),
	})
	must(why)
	return printed(e)
}

package front

import (
	"slices"
	"strconv"
	"strings"

	"thicket/api"
)

// reader takes the file of a number in.
type reader func(t *task, i int, file []byte)

// command is what it takes, and what it does with that.
type command struct {
	files   []reader // one for each file
	options string   // their names, with a blank between
	write   func(t *task) []byte
}

// The options of all that take a model, of all that take a batch too, and of what takes no model.
const (
	ofModel = "format features outputs"
	ofBatch = ofModel + " batch lost"
	ofLearn = "lost columns trees deep least num den"
)

// commandOf is the command that the first argument names.
func commandOf(args []string) command {
	name := ""
	if len(args) > 0 {
		name = args[0]
	}
	model, batch, sparse := (*task).readModel, (*task).readBatch, (*task).readSparse
	switch name {
	case "check":
		return command{[]reader{model}, ofModel, (*task).check}
	case "dump":
		return command{[]reader{model}, ofModel, (*task).dump}
	case "slim":
		return command{[]reader{model}, ofModel, (*task).slim}
	case "code":
		return command{[]reader{model}, ofModel + " tidy", (*task).code}
	case "image":
		return command{[]reader{model}, ofModel + " block", (*task).image}
	case "score":
		return command{[]reader{model, batch}, ofBatch + " engine block workers", (*task).score}
	case "class":
		return command{[]reader{model, batch}, ofBatch, (*task).class}
	case "reasons":
		return command{[]reader{model, batch}, ofBatch, (*task).reasons}
	case "top":
		return command{[]reader{model, batch}, ofBatch + " output k", (*task).top}
	case "rank":
		return command{[]reader{model, sparse}, ofModel + " lost output", (*task).rank}
	case "equal":
		return command{[]reader{model, model}, ofModel, (*task).equal}
	case "merge":
		return command{[]reader{model, model, model}, ofModel, (*task).merge}
	case "learn":
		return command{[]reader{sparse}, ofLearn, (*task).learn}
	}
	wrongArgument(0)
	return command{}
}

// option is what an option's value may be: one of its words, the first of which holds without it; or, if it has none, any text, if it is free, else a count.
type option struct {
	name        string
	words       string // with a blank between
	free        bool
	least, most int // a count's edges
	plain       int // the count that holds without it
}

// mostCount is the greatest count: nine digits.
const mostCount = 999999999

var options = [...]option{
	{name: "format", words: "text dump"},
	{name: "features", free: true},
	{name: "outputs", least: 1, most: api.MaxOutputs, plain: 1},
	{name: "tidy", words: "no yes"},
	{name: "lost", words: "no yes"},
	{name: "block", least: 1, most: api.MaxTrees, plain: 16},
	{name: "batch", words: "dense csv sparse"},
	{name: "engine", words: "quick descent lanes code bins"},
	{name: "workers", least: 1, most: 64, plain: 1},
	{name: "output", most: mostCount, plain: 0},
	{name: "k", most: mostCount, plain: 1},
	{name: "columns", least: 1, most: api.MaxFeatures, plain: 1},
	{name: "trees", most: api.MaxRounds, plain: 10},
	{name: "deep", most: api.MaxDeep, plain: 3},
	{name: "least", least: 1, most: api.MaxRows, plain: 1},
	{name: "num", least: 1, most: api.MaxDen, plain: 1},
	{name: "den", least: 1, most: api.MaxDen, plain: 1},
}

// setting is an option, its value, and whether that was told.
type setting struct {
	option
	text  string
	count int
	told  bool
}

// settings are all options by their names, also those that the command does not have: these are as they are without being told.
type settings map[string]setting

// settingsOf are what the further arguments say.
func settingsOf(c command, args []string) settings {
	all := settings{}
	for _, o := range options {
		first, _, _ := strings.Cut(o.words, " ")
		all[o.name] = setting{option: o, text: first, count: o.plain}
	}
	names := strings.Fields(c.options)
	for i, arg := range args[1:] {
		name, value, ok := cut(arg)
		if !ok || !slices.Contains(names, name) || all[name].told {
			wrongArgument(i + 1)
		}
		if all[name], ok = all[name].tell(value); !ok {
			wrongArgument(i + 1)
		}
	}
	return all
}

// cut is an option's name and value; false, if an argument is no option.
func cut(arg string) (string, string, bool) {
	rest, isOption := strings.CutPrefix(arg, "--")
	name, value, hasValue := strings.Cut(rest, "=")
	return name, value, isOption && hasValue
}

// tell is the option with a value that was told; false, if it can't have that one.
func (s setting) tell(value string) (setting, bool) {
	s.told = true
	switch {
	case s.free:
		s.text = value
		return s, true
	case s.words != "":
		s.text = value
		return s, slices.Contains(strings.Fields(s.words), value)
	}
	n, ok := countOf(value)
	s.count = n
	return s, ok && n >= s.least && n <= s.most
}

// countOf is what digits say; false, if a count may not be written so.
func countOf(s string) (int, bool) {
	n, err := strconv.Atoi(s)
	return n, err == nil && n >= 0 && n <= mostCount && strconv.Itoa(n) == s
}

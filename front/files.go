package front

import (
	"strconv"
	"strings"

	"thicket/api"
	"thicket/batch"
	"thicket/dumps"
	"thicket/text"
)

// task is what a command works with: its options' values and what was read from its files.
type task struct {
	settings settings
	models   []api.Ensemble
	vectors  [][]float64
	labels   []float64
}

func (t *task) word(name string) string { return t.settings[name].text }

func (t *task) count(name string) int { return t.settings[name].count }

func (t *task) isYes(name string) bool { return t.word(name) == "yes" }

func (t *task) readModel(i int, file []byte) {
	var e api.Ensemble
	if t.word("format") == "dump" {
		e = t.dumpOf(i, file)
	} else {
		e = textOf(i, file)
	}
	t.models = append(t.models, e)
}

func textOf(i int, file []byte) api.Ensemble {
	e, why, fault := text.Parse(string(file))
	mustLine(i, why, fault)
	return e
}

func (t *task) dumpOf(i int, file []byte) api.Ensemble {
	e, why, place := dumps.Read(file, t.head())
	switch {
	case why != api.OK && place != "":
		wrongFile(i, why, "place", place)
	case why != api.OK:
		wrongFile(i, why)
	}
	return e
}

// head is what a dump does not say of its ensemble.
func (t *task) head() api.Ensemble {
	e := api.Ensemble{Name: "dump", Outputs: t.count("outputs"), Base: make([]int64, t.count("outputs"))}
	if t.settings["features"].told {
		e.Features = strings.Split(t.word("features"), ",")
	}
	return e
}

// readBatch reads vectors for the model ahead.
func (t *task) readBatch(i int, file []byte) {
	var why api.Errno
	var fault api.Fault
	switch features := t.models[0].Features; t.word("batch") {
	case "csv":
		t.vectors, why, fault = batch.Csv(string(file), features)
	case "sparse":
		t.readSparse(i, file)
	default:
		t.vectors, why, fault = batch.Dense(string(file), len(features))
	}
	mustLine(i, why, fault)
}

// readSparse reads vectors and their labels: for the model ahead, if there is one.
func (t *task) readSparse(i int, file []byte) {
	columns := t.count("columns")
	if len(t.models) > 0 {
		columns = len(t.models[0].Features)
	}
	var why api.Errno
	var fault api.Fault
	t.vectors, t.labels, why, fault = batch.Sparse(string(file), columns, t.isYes("lost"))
	mustLine(i, why, fault)
}

// mustLine gives up, if a text has a fault.
func mustLine(i int, why api.Errno, fault api.Fault) {
	if why != api.OK {
		wrongFile(i, why, "line", strconv.Itoa(fault.Line), "rule", strconv.Itoa(fault.Rule))
	}
}

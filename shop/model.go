package shop

import (
	"thicket/api"
	"thicket/blocks"
	"thicket/image"
	"thicket/quick"
	"thicket/text"
)

// none is the number of no version.
const none = 0

// model is what stands under a name: version n at the place n - 1.
type model struct {
	name     string
	versions []version
	pin      int // none, if there is none
	trial    trial
}

// trial is a version that so many of MaxShare parts of the keys go to; its zero value is none.
type trial struct{ version, share int }

// version is an ensemble as its canonical text, from which all else comes again.
type version struct {
	dump   string
	gone   bool
	engine *engine // made when it is first asked
}

// withdraw lets go of what nobody can ask for any more. The text stays: the journal tells it.
func (v *version) withdraw() { v.gone, v.engine = true, nil }

// engine scores vectors by a version; its form is there for further scorers, as each is asked by one at a time.
type engine struct {
	form   api.Form
	scorer *quick.Scorer
}

// blockTrees is how many trees a block of a form has. Scores do not hang on it.
const blockTrees = 16

// newEngine compiles what text.Dump wrote, so that nothing can be wrong with it.
func newEngine(dump string) *engine {
	e, _, _ := text.Parse(dump)
	form, _ := blocks.Compile(e, blockTrees)
	scorer, _ := quick.New(form)
	return &engine{form, scorer}
}

func (m model) compiled(n int) *engine {
	v := &m.versions[n-1]
	if v.engine == nil {
		v.engine = newEngine(v.dump)
	}
	return v.engine
}

// current is the version that is asked. A pin is held, so that it stands.
func (m model) current() (int, api.Errno) {
	if m.pin != none {
		return m.pin, api.OK
	}
	for n := len(m.versions); n > none; n-- {
		if !m.versions[n-1].gone {
			return n, api.OK
		}
	}
	return none, api.ErrNoVersion
}

// route is the version for a key. Without a trial its share is 0, which no key is below.
func (m model) route(key string) (int, api.Errno) {
	if image.Sum([]byte(key))%api.MaxShare < uint64(m.trial.share) {
		return m.trial.version, api.OK
	}
	return m.current()
}

// routes are the versions for keys. Whether there is one hangs on no key, so that the first error is the first one's.
func (m model) routes(keys []string) ([]int, api.Errno) {
	l := make([]int, len(keys))
	for i, key := range keys {
		n, why := m.route(key)
		if why != api.OK {
			return nil, why
		}
		l[i] = n
	}
	return l, api.OK
}

package front

import (
	"bytes"
	"math/rand/v2"
	"runtime"
	"slices"
	"strings"
	"sync"
	"testing"
	"testing/synctest"
	"unsafe"
)

// room is a list's memory, its spare room included.
func roomOf[T any](l []T) []byte {
	var one T
	return unsafe.Slice((*byte)(unsafe.Pointer(unsafe.SliceData(l))), cap(l)*int(unsafe.Sizeof(one)))
}

// areApart tells whether two rooms have no byte in common.
func areApart(a, b []byte) bool {
	x, y := uintptr(unsafe.Pointer(unsafe.SliceData(a))), uintptr(unsafe.Pointer(unsafe.SliceData(b)))
	return len(a) == 0 || len(b) == 0 || x+uintptr(len(a)) <= y || y+uintptr(len(b)) <= x
}

// roomy is lists with room behind them, in which something stands.
func roomy(args []string, files [][]byte) ([]string, [][]byte) {
	args = append(slices.Clone(args), "--block=1", "x")[:len(args)]
	l := append(slices.Clone(files), []byte(small), nil)[:len(files)]
	for i, f := range l {
		l[i] = append(slices.Clone(f), "\nleaf 1\nend\n"...)[:len(f)]
	}
	return args, l
}

// What is handed in is neither changed nor kept, its spare room included; what is written is new memory, and may be written over.
func TestMemory(t *testing.T) {
	r := source()
	for i := range 600 {
		args, files := someRun(r)
		if i%4 == 0 {
			args, files = spoil(r, args, files)
		}
		want, exit := answerByWords(args, files)
		args, files = roomy(args, files)
		before := append(slices.Clone(args[:cap(args)]), "")
		var bodies [][]byte
		for _, f := range files[:cap(files)] {
			bodies = append(bodies, bytes.Clone(f[:cap(f)]))
		}
		first, code := Run(args, files)
		other, _ := someRun(r)
		Run(other, files) // another run in between
		second, again := Run(args, files)
		if string(first) != want || string(second) != want || code != exit || again != exit {
			t.Fatalf("P3: %q: a capacity is seen, or the second answer is another one", args)
		}
		if !slices.Equal(args[:cap(args)], before[:len(before)-1]) {
			t.Fatal("P30.4: arguments were changed")
		}
		for i, f := range files[:cap(files)] {
			if !bytes.Equal(f[:cap(f)], bodies[i]) {
				t.Fatal("P30.4: files were changed")
			}
			if !areApart(roomOf(f), roomOf(first)) || !areApart(roomOf(f), roomOf(second)) {
				t.Fatal("P30.4: what is written shares memory with a file")
			}
		}
		if !areApart(roomOf(first), roomOf(second)) {
			t.Fatal("P30.4: two answers share memory")
		}
		clear(first[:cap(first)])
		if third, code := Run(args, files); string(third) != want || code != exit || string(second) != want {
			t.Fatal("P30.4: an answer is kept")
		}
		for _, f := range files {
			clear(f[:cap(f)])
		}
		clear(args)
		if string(second) != want {
			t.Fatal("P30.4: what is handed in is kept")
		}
	}
}

// No goroutine is left behind, of runs that answer and of such as are refused: a bubble is back when each one within has ended, and panics if one never will.
func TestNoneIsLeft(t *testing.T) {
	r := source()
	e := someEnsemble(r, 5)
	l := dense(someVectors(r, 100, len(e.Features)))
	for _, args := range scoreArgs([]int{1, 16}, []int{1, 2, 64}) {
		synctest.Test(t, func(*testing.T) {
			run(args, written(e), l)
			run(args, written(e), "")
			run(args, written(e), "x")
			run(args)
		})
	}
	for range 100 {
		args, files := someRun(r)
		synctest.Test(t, func(*testing.T) { Run(args, files) })
	}
}

// Runs at one time have nothing to do with one another, and how goroutines run is not seen.
func TestAtOneTime(t *testing.T) {
	r := source()
	for _, processors := range []int{1, 2, runtime.NumCPU()} {
		before := runtime.GOMAXPROCS(processors)
		var all sync.WaitGroup
		for range 100 {
			args, files := someRun(r)
			want, exit := answerByWords(args, files)
			all.Go(func() {
				for range 3 {
					if out, code := Run(args, files); string(out) != want || code != exit {
						t.Errorf("P3, P4: %q at one time with others: %q, %d", args, out, code)
					}
				}
			})
		}
		all.Wait()
		runtime.GOMAXPROCS(before)
	}
}

func someBytes(r *rand.Rand, n int) []byte {
	b := make([]byte, n)
	for i := range b {
		b[i] = byte(pick(r, r.IntN(256), ' ', '\n', '0', '1', ',', ':', '[', '{', '"', '#'))
	}
	return b
}

// Bytes of every kind, in every argument and every file: each run ends, none panics, and one that is refused writes one line.
func TestAnyBytes(t *testing.T) {
	r := source()
	for range 5000 {
		args, files := someRun(r)
		switch r.IntN(3) {
		case 0:
			files[r.IntN(len(files))] = someBytes(r, r.IntN(40))
		case 1:
			f := &files[r.IntN(len(files))]
			at := r.IntN(len(*f) + 1)
			*f = slices.Concat((*f)[:at], someBytes(r, 1+r.IntN(3)), (*f)[at:])
		case 2:
			args = append(args, string(someBytes(r, r.IntN(20))))
		}
		out, exit := Run(args, files)
		if want, code := answerByWords(args, files); string(out) != want || exit != code {
			t.Fatalf("P30: %q of %q: %q, %d, not %q, %d", args, files, out, exit, want, code)
		}
	}
	for c := range 256 { // each byte alone
		one := string([]byte{byte(c)})
		for name, k := range allCommands() {
			for i := range k.files {
				files := slices.Clone(k.files)
				files[i] = one
				if out, exit := run([]string{name}, files...); exit != 0 && (!strings.HasPrefix(out, "fault ") || strings.Count(out, "\n") != 1) {
					t.Errorf("P16: %s with %q as file %d: %q, %d", name, one, i, out, exit)
				}
			}
			noArgument(t, 1, []string{name, one}, k.files...)
		}
	}
}

// A panic that is not one of giving up is not taken for one.
func TestOtherPanics(t *testing.T) {
	defer func() {
		if recover() != "other" {
			t.Error("another panic is swallowed")
		}
	}()
	caught(func() { panic("other") })
}

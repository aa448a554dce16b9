package mem

import (
	"fmt"
	"testing"

	"cadence/api"
	"cadence/eval"
	"cadence/simp"
)

// P2105: an array of terms means an array of words.

// wordArray: what was stored, one behind the other; what stands at a place is what was stored there last.
type wordArray struct {
	first  []uint64
	stored [][2]uint64 // index, word
}

func (a *wordArray) at(index uint64) uint64 {
	n := uint64(len(a.first))
	for k := len(a.stored) - 1; k >= 0; k-- {
		if a.stored[k][0]%n == index%n {
			return a.stored[k][1]
		}
	}
	return a.first[index%n]
}

func (a *wordArray) clone() *wordArray {
	return &wordArray{first: a.first, stored: append([][2]uint64{}, a.stored...)}
}

// wordsOf: the values of terms.
func wordsOf(t testing.TB, m *simp.Maker, terms []int, vals []api.Value) []uint64 {
	t.Helper()
	words, e := eval.Values(m.Store(), terms, vals)
	if e != api.OK {
		t.Fatal(e)
	}
	return words
}

// wantWords: under some values each term that a script loaded, and each cell that is left, has the value that words tell.
func wantWords(t testing.TB, s *script, r played, vals []api.Value) {
	t.Helper()
	got := wordsOf(t, r.maker, r.terms, vals)
	words := append([]uint64{}, got[:len(s.pool)]...)
	var first []uint64
	for _, c := range s.cells {
		first = append(first, words[c])
	}
	arrays := []*wordArray{{first: first}}
	for k, x := range s.steps {
		a := arrays[x.array]
		switch x.kind {
		case aLoad:
			word := a.at(words[x.i])
			if word != got[len(words)] {
				t.Fatalf("step %d: %d, not %d, under %v\n%s", k, got[len(words)], word, vals, s.shown())
			}
			words = append(words, word)
		case aStore:
			a.stored = append(a.stored, [2]uint64{words[x.i], words[x.v]})
		default:
			arrays = append(arrays, a.clone())
		}
	}
	for k, a := range arrays {
		for place, word := range wordsOf(t, r.maker, r.arrays[k].Cells(), vals) {
			if want := a.at(uint64(place)); word != want { // also beyond the places, where nothing is ever stored
				t.Fatalf("array %d, place %d: %d, not %d, under %v\n%s", k, place, word, want, vals, s.shown())
			}
		}
	}
}

// someValues: of the variables of a pool.
func someValues(p *picker, w int) []api.Value {
	var vals []api.Value
	for _, name := range []string{"a", "b", "c", "d"} {
		vals = append(vals, api.Value{Name: name, W: w, Num: someWord(p, w)})
	}
	return vals
}

// TestMeansScripts: many scripts, each under many values.
func TestMeansScripts(t *testing.T) {
	p := picker(21)
	for range 6000 {
		s := someScript(&p)
		r := play(t, s)
		for range 12 {
			wantWords(t, s, r, someValues(&p, s.width))
		}
	}
}

// TestMeansAll: scripts over narrow words, under all values.
func TestMeansAll(t *testing.T) {
	p := picker(2105)
	for range 700 {
		s := someScript(&p)
		for s.width > 2 {
			s = someScript(&p)
		}
		r := play(t, s)
		for x := range 1 << (4 * s.width) {
			vals := someValues(&p, s.width)
			for n := range vals {
				vals[n].Num = uint64(x >> (n * s.width) & (1<<s.width - 1))
			}
			wantWords(t, s, r, vals)
		}
	}
}

// TestMeansEachIndex: each size, each place, by an index that is a variable.
func TestMeansEachIndex(t *testing.T) {
	for _, n := range sizes() {
		for _, w := range []int{4, 8, 64} {
			m := simp.New()
			var cells []int
			for x := range n {
				cells = append(cells, made(t, m, fmt.Sprintf("%d:%d", x*7%(1<<min(w, 8)), w)))
			}
			a := arrayOf(t, m, cells...)
			loaded := load(t, a, made(t, m, fmt.Sprint("i:", w)))
			store(t, a, made(t, m, fmt.Sprint("j:", w)), made(t, m, fmt.Sprint("v:", w)))
			behind := load(t, a, made(t, m, fmt.Sprint("i:", w)))
			for x := range 1 << min(w, 8) {
				for _, y := range []int{x, x ^ 1, x ^ n&(1<<min(w, 8)-1), 0} {
					vals := []api.Value{{Name: "i", W: w, Num: uint64(x)}, {Name: "j", W: w, Num: uint64(y)}, {Name: "v", W: w, Num: 9}}
					old := uint64(x % n * 7 % (1 << min(w, 8)))
					want := []uint64{old, old}
					if x%n == y%n {
						want[1] = 9
					}
					is(t, fmt.Sprint(n, " words of ", w, " bits under ", vals), wordsOf(t, m, []int{loaded, behind}, vals), want)
				}
			}
		}
	}
}

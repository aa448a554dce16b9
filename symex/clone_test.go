package symex

import (
	"fmt"
	"testing"

	"cadence/api"
)

// known: all that a state knows: its words, and those of its temps.
func (b *begun) known(s *State) string {
	b.t.Helper()
	text := fmt.Sprint(s.Words())
	for n := range b.f.Temps {
		word, e := s.Word(temp(n))
		if e != api.OK {
			b.t.Fatal(e)
		}
		text += fmt.Sprint(" ", word)
	}
	return text
}

// TestClone: the same words, and none knows of what the other does from there on (F22.2, P2204).
func TestClone(t *testing.T) {
	b := begin(t, code(t, "width 8; secret k; out x; const T[2] = 5, 6; secret a[4]; var v[2];", 4))
	b.do(ins(api.EAdd, 1, temp(0), number(1)))
	b.do(store(3, temp(0), number(7)))
	c := b.s.Clone()
	d := c.Clone()
	first := b.known(b.s)
	is(t, "the clone", b.known(c), first)
	is(t, "its clone", b.known(d), first)
	changed := first
	for _, x := range []api.Ins{
		ins(api.ENeg, 0, temp(0)), ins(api.FCopy, 3, number(9)), store(3, temp(1), number(1)), store(3, number(2), number(3)),
		store(4, number(0), number(200)), load(2, 2, temp(1)), load(1, 3, number(0)), ins(api.EDiv, 1, temp(0), temp(2)),
	} {
		b.do(x)
		changed = b.known(b.s)
		is(t, "the clone, behind an instruction of the state", b.known(c), first)
		is(t, "the clone's clone", b.known(d), first)
	}
	if changed == first {
		t.Fatal("nothing was done")
	}
	for _, x := range []api.Ins{ins(api.FCopy, 0, number(1)), store(3, temp(1), number(2)), store(4, number(1), number(2))} {
		if _, _, e := c.Do(x); e != api.OK {
			t.Fatal(e)
		}
		is(t, "the state, behind an instruction of the clone", b.known(b.s), changed)
		is(t, "the clone's clone, behind it", b.known(d), first)
	}
	event, seen, e := d.Do(load(2, 2, number(1)))
	is(t, "a table of the clone's clone", []any{b.showEvent(event), seen, e}, []any{"load 2 1", true, api.OK})
	word, _ := d.Word(temp(2))
	is(t, "its word", b.show(word), "6")
}

// TestClones: many states of many clones, each doing its own instructions, come to what each comes to alone (P2204).
func TestClones(t *testing.T) {
	k := picker(2204)
	for range 300 {
		f := anyFlat(t, &k, 6, 3)
		b := begin(t, f)
		m := flatMaker{picker: &k, f: f}
		states, done := []*State{b.s}, [][]api.Ins{nil}
		for range 40 {
			i := k.below(len(states))
			if len(states) < 6 && k.below(4) == 0 {
				states = append(states, states[i].Clone())
				done = append(done, append([]api.Ins(nil), done[i]...))
				continue
			}
			x := m.ins(0)
			if _, _, e := states[i].Do(x); e != api.OK {
				t.Fatalf("%+v: %d", x, e)
			}
			done[i] = append(done[i], x)
		}
		for i, s := range states {
			alone := beginWith(t, f, b.m, b.in)
			for _, x := range done[i] {
				alone.do(x)
			}
			is(t, "a state among clones", b.known(s), b.known(alone.s))
		}
	}
}

// TestApart: two states of one code and one maker share nothing else (P2204).
func TestApart(t *testing.T) {
	f := code(t, "width 8; secret k; out x[2];", 2)
	b := begin(t, f)
	c := beginWith(t, f, b.m, b.in)
	first := b.known(c.s)
	b.do(store(1, temp(0), number(5)))
	b.do(ins(api.ECom, 0, temp(0)))
	is(t, "the other state", b.known(c.s), first)
}

package pair

import (
	"fmt"
	"slices"
	"strings"
	"testing"

	"cadence/api"
	"cadence/flat"
)

// flatMaker makes flat code: any temps, in any order, are set and used, again and again.
type flatMaker struct {
	*picker
	f    api.Flat
	most int // instructions in a block
}

// anyHead: width, line and declarations: x, s, n, v are singles, a, b arrays, T, U tables, in any order.
func anyHead(k *picker) string {
	kind := func() string { return pick(k, "public ", "secret ", "secret ", "var ", "out ") }
	var decls []string
	for _, s := range []string{"x", "s", "n", "v"} {
		decls = append(decls, kind()+s+"; ")
	}
	for _, s := range []string{"a", "b"} {
		decls = append(decls, fmt.Sprintf("%s%s[%d]; ", kind(), s, pick(k, 1, 2, 4, 32)))
	}
	for _, s := range []string{"T", "U"} {
		n := pick(k, 1, 2, 4, 8)
		var words []string
		for range n {
			words = append(words, fmt.Sprint(k.below(16)))
		}
		decls = append(decls, fmt.Sprintf("const %s[%d] = %s; ", s, n, strings.Join(words, ", ")))
	}
	text := fmt.Sprintf("width %d; line %d; ", pick(k, widths()...), pick(k, 1, 1, 2, 4, 256))
	for len(decls) > 0 {
		i := k.below(len(decls))
		text += decls[i]
		decls = slices.Delete(decls, i, i+1)
	}
	return text
}

// anyFlat: any flat code that may be, of blocks of fewer than so many instructions, within at most so many ifs.
func anyFlat(t testing.TB, k *picker, most, depth int) api.Flat {
	t.Helper()
	m := flatMaker{picker: k, f: code(t, anyHead(k), 4+k.below(4)), most: most}
	m.f.Code = append(m.block(depth), m.block(depth)...)
	if !flat.May(m.f) {
		t.Fatalf("made so that it may be: %s", shown(m.f))
	}
	return m.f
}

func (m *flatMaker) arg() api.Arg {
	switch m.below(6) {
	case 0:
		return number(uint64(m.below(4)))
	case 1:
		return number(pick(m.picker, edges(m.f.Width)...))
	}
	return temp(m.below(m.f.Temps))
}

func (m *flatMaker) array(stores bool) int {
	for {
		i := m.below(len(m.f.Decls))
		if d := m.f.Decls[i]; d.Size > 0 && !(stores && d.Kind == api.DConst) {
			return i
		}
	}
}

func (m *flatMaker) block(depth int) []api.Ins {
	var l []api.Ins
	for range m.below(m.most) {
		l = append(l, m.ins(depth))
	}
	return l
}

// ins: any instruction; without an if, if it may have no depth.
func (m *flatMaker) ins(depth int) api.Ins {
	switch kind := m.below(12); {
	case kind > 8 && depth > 0:
		return branch(m.arg(), m.block(depth-1), m.block(depth-1))
	case kind == 2:
		return load(m.below(m.f.Temps), m.array(false), m.arg())
	case kind == 3:
		return store(m.array(true), m.arg(), m.arg())
	case kind == 4:
		return release(m.arg())
	}
	op := pick(m.picker, append(wordOps(), api.FCopy, api.FCopy, api.EEq, api.ELt, api.EXor)...)
	var args []api.Arg
	for range partsOf(op) {
		args = append(args, m.arg())
	}
	return ins(op, m.below(m.f.Temps), args...)
}

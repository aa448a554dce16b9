// Package ops tells what the operations of flat code make of terms. Layers 22 (symex) and 23 (pair) go through flat code on it. See the tables of shared/doc/22-symex.md and shared/doc/23-pair.md.
package ops

import (
	"math/bits"
	"slices"

	"cadence/api"
	"cadence/simp"
)

// Maker makes words of one width, and truths, by a maker. The maker refuses nothing of it, since all parts are of the sorts that are asked for, and its store has no limit.
type Maker struct {
	by    *simp.Maker
	width int
}

// Of: words of that width, by that maker.
func Of(m *simp.Maker, width int) Maker { return Maker{m, width} }

// Number: a constant.
func (m Maker) Number(x uint64) int {
	made, _ := m.by.Const(m.width, x)
	return made
}

// Not: of a truth.
func (m Maker) Not(truth int) int { return m.un(api.OpNot, truth) }

// Bin: of two words, or truths.
func (m Maker) Bin(op, a, b int) int {
	made, _ := m.by.Bin(op, a, b)
	return made
}

// Unlike: that two words are not the same.
func (m Maker) Unlike(a, b int) int { return m.Not(m.Bin(api.OpEq, a, b)) }

// Truth: of a word, that it is not 0.
func (m Maker) Truth(word int) int { return m.Unlike(word, m.Number(0)) }

// Tells: is a truth so simple that it is T, or F? And is it T?
func (m Maker) Tells(truth int) (told, is bool) {
	n, _ := m.by.Store().Node(truth)
	return n.Op == api.OpTrue || n.Op == api.OpFalse, n.Op == api.OpTrue
}

// Line: the bits of an index that tell its line in an array; false, if all its lines are one.
func (m Maker) Line(index, size, line int) (int, bool) {
	from, to := log(line), min(log(size), m.width)
	if from >= to {
		return 0, false
	}
	made, _ := m.by.Slice(index, from, to-from)
	return made, true
}

// Wide: a word, or fewer bits than it has, as a word.
func (m Maker) Wide(few int) int {
	made, _ := m.by.Ext(api.OpZext, few, m.width)
	return made
}

// log: of a power of two.
func log(n int) int { return bits.Len(uint(n)) - 1 }

// Op: the word that an operation makes of others; of FCopy too.
func (m Maker) Op(op int, of [3]int) int {
	a, b, c := of[0], of[1], of[2]
	switch op {
	case api.FCopy:
		return a
	case api.ECom, api.ENeg:
		return m.un(operations[op], a)
	case api.EEq, api.ELt, api.ELe, api.ESlt:
		return m.flag(m.Bin(operations[op], a, b))
	case api.EGt, api.EGe:
		return m.flag(m.Bin(operations[op], b, a))
	case api.ENe:
		return m.flag(m.Not(m.Bin(operations[op], a, b)))
	case api.ESel:
		return m.ite(m.Truth(a), b, c)
	}
	return m.Bin(operations[op], a, b)
}

// flag: the word of a truth.
func (m Maker) flag(truth int) int { return m.ite(truth, m.Number(1), m.Number(0)) }

func (m Maker) un(op, a int) int {
	made, _ := m.by.Un(op, a)
	return made
}

func (m Maker) ite(c, a, b int) int {
	made, _ := m.by.Ite(c, a, b)
	return made
}

// First: the words of declarations at the beginning, of each in order, with these for the inputs.
func (m Maker) First(decls []api.Decl, in []int) [][]int {
	all := make([][]int, len(decls))
	for i := range decls {
		d := &decls[i]
		if IsInput(d) {
			all[i], in = in[:Count(d)], in[Count(d):]
			continue
		}
		all[i] = slices.Repeat([]int{m.Number(0)}, Count(d))
		for n, x := range d.Values {
			all[i][n] = m.Number(x)
		}
	}
	return all
}

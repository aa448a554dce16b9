package wf

import (
	"slices"
	"strings"

	"cadence/api"
)

// subject: a program that is looked at.
type subject struct {
	program *api.Program
	places  map[string]int // of the first declaration of each name; nil till one is asked for
}

// declared: the place of the first declaration of that name, if there is one. The map is made when it is asked for: a program that is refused ahead of that may have any number of declarations.
func (x *subject) declared(name string) (place int, is bool) {
	if x.places == nil {
		x.places = make(map[string]int, len(x.program.Decls))
		for i, d := range slices.Backward(x.program.Decls) {
			x.places[d.Name] = i
		}
	}
	place, is = x.places[name]
	return place, is
}

// What a name may name, as a set of bits.
const (
	aLoop = 1 << iota
	aSingle
	anArray // that is no table
	aTable
)

// nothing: the empty set.
const nothing = 0

// meaning: what a name names with these loops around it; nothing, if it is not known there.
func (x *subject) meaning(name string, loops *loop) int {
	if loops.has(name) {
		return aLoop
	}
	place, is := x.declared(name)
	if !is {
		return nothing
	}
	switch d := &x.program.Decls[place]; {
	case d.Size == 0:
		return aSingle
	case d.Kind == api.DConst:
		return aTable
	}
	return anArray
}

// use: the name that must be known at a thing, and what it may name there; nothing, if there is no such name.
func (t thing) use() (name string, takes int) {
	switch {
	case t.expr != nil:
		return t.expr.Name, exprTakes(t.expr.Kind)
	case t.stmt != nil:
		return t.stmt.Name, stmtTakes(t.stmt.Kind)
	}
	return "", nothing
}

func exprTakes(kind int) int {
	switch kind {
	case api.EName:
		return aLoop | aSingle
	case api.ELoad:
		return anArray | aTable
	}
	return nothing
}

func stmtTakes(kind int) int {
	switch kind {
	case api.SSet, api.SRelease:
		return aSingle
	case api.SStore:
		return anArray
	}
	return nothing
}

// names: those that are known at a thing, in order, each once.
func (x *subject) names(t thing) []string {
	decls := x.program.Decls
	if t.decl != nil {
		decls = decls[:t.place]
	}
	var names []string
	for _, d := range decls {
		names = append(names, strings.Clone(d.Name))
	}
	for l := t.loops; l != nil; l = l.outer {
		names = append(names, strings.Clone(l.name))
	}
	slices.Sort(names)
	return slices.Compact(names)
}

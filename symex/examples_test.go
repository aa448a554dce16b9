package symex

import (
	"testing"

	"cadence/api"
)

// TestExamples: those of the chapter.
func TestExamples(t *testing.T) {
	f := program(t, "width 8; line 1; secret k; const T[4] = 7, 6, 5, 4; out x; begin x = T[k]; if x < 6 { x = k; } end")
	b := begin(t, f)
	is(t, "Inputs", b.shows(b.in), "i0")
	const (
		c0, c1 = "(eq (slice i0 0 1) 1:1)", "(eq (slice i0 1 1) 1:1)"
		v      = "(ite " + c1 + " (ite " + c0 + " 4 5) (ite " + c0 + " 6 7))"
		seen   = "load 1 (zext (slice i0 0 2) 8), "
	)
	b.waysAre(9, false,
		"(ult "+v+" 6); "+seen+"branch 1; (i0) (i0)",
		"(not (ult "+v+" 6)); "+seen+"branch 0; (i0) ("+v+")")
	l, _ := b.paths(9)
	is(t, "Follow", b.follow(b.told(2)), l[0])
	is(t, "Follow of 1", b.follow(b.told(1)), l[1])
	if in, e := Inputs(f, b.m, nil); in != nil || e != api.ErrLength {
		t.Error(in, e)
	}
	if in, e := Inputs(f, b.m, []string{"-"}); in != nil || e != api.ErrArg {
		t.Error(in, e)
	}
	if s, e := Begin(f, nil, b.in); s != nil || e != api.ErrNil {
		t.Error(s, e)
	}
}

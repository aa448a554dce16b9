package pair

import (
	"testing"

	"cadence/api"
)

// set: Then is FCopy of one number to x, Else of another.
func set(x int, one, two uint64) (then, otherwise []api.Ins) {
	return list(ins(api.FCopy, x, number(one))), list(ins(api.FCopy, x, number(two)))
}

// TestKnownIf: an if whose truth is T or F goes into the part that this tells, with its event, and goes on (P2302).
func TestKnownIf(t *testing.T) {
	then, otherwise := set(2, 5, 6)
	for _, r := range []struct {
		a    api.Arg
		make api.Ins
		want string
	}{
		{number(1), ins(api.FCopy, 3, number(0)), "5 | 5"},
		{number(255), ins(api.FCopy, 3, number(0)), "5 | 5"},
		{number(0), ins(api.FCopy, 3, number(0)), "6 | 6"},
		{temp(3), ins(api.FCopy, 3, number(9)), "5 | 5"},
		{temp(3), ins(api.EXor, 3, temp(0), temp(0)), "6 | 6"},
		{temp(3), ins(api.EEq, 3, temp(0), temp(0)), "5 | 5"},
		{temp(3), ins(api.ELt, 3, temp(0), number(0)), "6 | 6"},
		{temp(4), ins(api.FCopy, 3, number(9)), "6 | 6"},
	} {
		g := start(t, code(t, "width 8; secret k; public n; out x;", 5, r.make, branch(r.a, then, otherwise), ins(api.FCopy, 1, temp(2))))
		g.is(-1, End, "", 8)
		g.so(1, "")
		is(t, "x", g.words(1), r.want)
	}
}

// TestFork: first the way into Then, with the assumptions t, then u; then that into Else, with Not t, then Not u; one that is made already is not made again (P2304).
func TestFork(t *testing.T) {
	then, otherwise := set(2, 5, 6)
	f := code(t, "width 8; secret k; public n; out x;", 4,
		release(temp(0)), ins(api.ELt, 3, temp(0), number(9)), branch(temp(3), then, otherwise), branch(temp(1), then, otherwise), branch(temp(3), then, otherwise))
	g := start(t, f)
	g.is(-1, Differ, "(xor (ult x0 9) (ult y0 9))", 6)
	g.agree()
	g.is(-1, Branch, "(ult x0 9)", 0)
	a, b := g.fork()
	a.so(2, "(eq x0 y0), (ult x0 9), (ult y0 9)")
	b.so(2, "(eq x0 y0), (not (ult x0 9)), (not (ult y0 9))")
	is(t, "no part is done yet", a.words(2)+", "+b.words(2), "0 | 0, 0 | 0")
	b.is(-1, Branch, "(not (eq p1 0))", 4)
	a.is(2, Room, "", 2)
	a.is(2, Branch, "(not (eq p1 0))", 2)
	is(t, "the parts", a.words(2)+", "+b.words(2), "5 | 5, 6 | 6")
	aa, ab := a.fork()
	ba, bb := b.fork()
	for _, r := range []struct {
		g       *going
		assumed string
	}{
		{aa, "(eq x0 y0), (ult x0 9), (ult y0 9), (not (eq p1 0))"}, // t is u: once
		{ab, "(eq x0 y0), (ult x0 9), (ult y0 9), (eq p1 0)"},
		{ba, "(eq x0 y0), (not (ult x0 9)), (not (ult y0 9)), (not (eq p1 0))"},
		{bb, "(eq x0 y0), (not (ult x0 9)), (not (ult y0 9)), (eq p1 0)"},
	} {
		r.g.so(3, r.assumed)
		r.g.is(-1, Differ, "(xor (ult x0 9) (ult y0 9))", 4)
		r.g.agree()
		r.g.so(4, r.assumed)
		first, second := r.g.fork()
		more := map[bool]string{true: ""}
		switch r.g {
		case aa, ab:
			more[false] = ", (not (ult x0 9)), (not (ult y0 9))"
			first.so(4, r.assumed) // made already
			second.so(4, r.assumed+more[false])
		default:
			first.so(4, r.assumed+", (ult x0 9), (ult y0 9)")
			second.so(4, r.assumed)
		}
		first.is(-1, End, "", 2)
		second.is(-1, End, "", 2)
		is(t, "x", first.words(2)+", "+second.words(2), "5 | 5, 6 | 6")
	}
}

// TestNested: ifs within ifs and behind ifs, and empty parts (P2302, P2304).
func TestNested(t *testing.T) {
	add := func(n uint64) api.Ins { return ins(api.EAdd, 3, temp(3), number(n)) }
	f := code(t, "width 8; public a; public b; public c; out x;", 4,
		branch(temp(0), list(add(1), branch(temp(1), list(add(2)), nil), add(4)), list(branch(temp(1), nil, list(add(8), branch(temp(2), nil, nil))))),
		branch(temp(2), nil, list(add(16))), add(32))
	got := ""
	var all func(g *going, name string)
	all = func(g *going, name string) {
		ask := g.w.Next(-1)
		if ask.Kind == End {
			got += name + " " + g.words(3) + " events " + string('0'+byte(g.w.Events())) + " assumed " + g.shows(g.w.Assumed()) + "\n"
			return
		}
		is(t, "the ask", ask.Kind, Branch)
		then, otherwise := g.fork()
		all(then, name+"T")
		all(otherwise, name+"E")
	}
	all(start(t, f), "")
	a, b, c := "(eq p0 0)", "(eq p1 0)", "(eq p2 0)"
	na, nb, nc := "(not (eq p0 0))", "(not (eq p1 0))", "(not (eq p2 0))"
	is(t, "all ways", got, "TTT 39 | 39 events 3 assumed "+na+", "+nb+", "+nc+"\n"+
		"TTE 55 | 55 events 3 assumed "+na+", "+nb+", "+c+"\n"+
		"TET 37 | 37 events 3 assumed "+na+", "+b+", "+nc+"\n"+
		"TEE 53 | 53 events 3 assumed "+na+", "+b+", "+c+"\n"+
		"ETT 32 | 32 events 3 assumed "+a+", "+nb+", "+nc+"\n"+
		"ETE 48 | 48 events 3 assumed "+a+", "+nb+", "+c+"\n"+
		"EETT 40 | 40 events 4 assumed "+a+", "+b+", "+nc+"\n"+
		"EETE 56 | 56 events 4 assumed "+a+", "+b+", "+nc+", "+c+"\n"+
		"EEET 40 | 40 events 4 assumed "+a+", "+b+", "+c+", "+nc+"\n"+
		"EEEE 56 | 56 events 4 assumed "+a+", "+b+", "+c+"\n")
}

// TestIndependent: the two ways of a fork know nothing of one another (P2304).
func TestIndependent(t *testing.T) {
	f := code(t, "width 8; line 8; secret k; public n; out x; var a[2]; public m[2]; const T[2] = 1, 2;", 5,
		store(3, number(0), temp(1)),
		branch(temp(1), list(store(3, number(1), number(7)), store(4, temp(1), temp(0)), ins(api.EAdd, 2, temp(0), number(1)), release(temp(0))),
			list(load(4, 3, number(0)), store(4, number(0), number(9)), release(temp(2)))),
		ins(api.FCopy, 0, number(3)), ins(api.EDiv, 1, temp(1), temp(0)), release(temp(2)))
	told := func(g *going) string {
		return g.words(0) + "; " + g.words(1) + "; " + g.words(2) + "; " + g.words(4) + "; " + g.arrays(3) + "; " + g.arrays(4) + "; " + g.arrays(5) + "; " + g.shows(g.w.Assumed())
	}
	toFork := func() (*going, *going) {
		g := start(t, f)
		g.is(-1, Branch, "(not (eq p1 0))", 6)
		return g.fork()
	}
	const beginning = "x0 | y0; p1 | p1; 0 | 0; 0 | 0; p1, 0 | p1, 0; p2, p3 | p2, p3; 1, 2 | 1, 2; "
	const stored = "(ite (eq (slice p1 0 1) 0:1) x0 p2), (ite (eq (slice p1 0 1) 1:1) x0 p3) | (ite (eq (slice p1 0 1) 0:1) y0 p2), (ite (eq (slice p1 0 1) 1:1) y0 p3)"
	const thenEnd = "3 | 3; (div p1 3) | (div p1 3); (add x0 1) | (add y0 1); 0 | 0; p1, 7 | p1, 7; " + stored + "; 1, 2 | 1, 2; (not (eq p1 0)), (eq x0 y0), (eq (add x0 1) (add y0 1))"
	const elseEnd = "3 | 3; (div p1 3) | (div p1 3); 0 | 0; p1 | p1; p1, 0 | p1, 0; 9, p3 | 9, p3; 1, 2 | 1, 2; (eq p1 0)"
	// First the one to its end, then the other one; or by turns.
	for turns := range 3 {
		then, otherwise := toFork()
		is(t, "Then", told(then), beginning+"(not (eq p1 0))")
		is(t, "Else", told(otherwise), beginning+"(eq p1 0)")
		first, second := then, otherwise
		if turns == 1 {
			first, second = otherwise, then
		}
		if turns == 2 {
			for range 8 {
				first.w.Next(4)
				second.w.Next(4)
			}
		}
		waiting := told(second)
		is(t, "the first one", first.w.Next(-1).Kind, End)
		is(t, "the one that waits", told(second), waiting)
		is(t, "the second one", second.w.Next(-1).Kind, End)
		is(t, "Then at its end", told(then), thenEnd)
		is(t, "Else at its end", told(otherwise), elseEnd)
		is(t, "events", []int{then.w.Events(), otherwise.w.Events()}, []int{7, 7})
	}
}

// TestForkOfFork: ways that come of the same branch are the same, whatever becomes of those that came of it first (P2304).
func TestForkOfFork(t *testing.T) {
	then, otherwise := set(1, 5, 6)
	g := start(t, code(t, "width 8; public n; out x;", 2, branch(temp(0), then, otherwise), branch(temp(1), nil, nil)))
	g.is(-1, Branch, "(not (eq p0 0))", 2)
	a, b := g.fork()
	a.is(-1, End, "", 4)
	b.is(-1, End, "", 4)
	a.so(2, "(not (eq p0 0))")
	b.so(2, "(eq p0 0)")
	if a.w == b.w || a.w.Store() != b.w.Store() {
		t.Fatal("two ways are one, or have two stores")
	}
}

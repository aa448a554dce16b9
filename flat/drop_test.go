package flat

import (
	"testing"

	"cadence/api"
)

// dropHead: k 0, n 1, x 2, v 3, y 4; three temps more.
const dropHead = "width 8; secret k; public n; out x; var v; const T[4] = 1, 2, 3, 4; out y; var a[2]; out b[2];"

// TestDrop: what is dead and what is needed, by hand (F19.3).
func TestDrop(t *testing.T) {
	for _, r := range []struct{ what, code, want string }{
		{"nothing", "", ""},
		{"an output", "t2 = copy 1", "t2 = copy 1"},
		{"the other output", "t4 = copy t0", "t4 = copy t0"},
		{"a variable", "t3 = copy 1", ""},
		{"inputs", "t0 = copy 1; t1 = copy 2", ""},
		{"a temp", "t5 = add t0 t1", ""},
		{"each operation that nobody sees", "t5 = com t0; t5 = neg t0; t5 = mul t0 t1; t5 = add t0 t1; t5 = sub t0 t1; t5 = shl t0 t1; t5 = shr t0 t1; t5 = rol t0 t1; t5 = ror t0 t1; t5 = and t0 t1; t5 = xor t0 t1; t5 = or t0 t1; t5 = eq t0 t1; t5 = ne t0 t1; t5 = lt t0 t1; t5 = le t0 t1; t5 = gt t0 t1; t5 = ge t0 t1; t5 = sar t0 t1; t5 = slt t0 t1; t5 = sel t0 t1 t2; t5 = copy t0", ""},
		{"each operation with a Dst that is seen", "t5 = div t0 t1; t5 = rem t0 t1; t5 = T[t0]; t5 = a[1]", "t5 = div t0 t1; t5 = rem t0 t1; t5 = T[t0]; t5 = a[1]"},
		{"stores and releases", "a[t0] = t1; b[0] = 1; release t3; release 4", "a[t0] = t1; b[0] = 1; release t3; release 4"},
		{"a chain", "t5 = add t0 1; t6 = add t5 1; t2 = copy t6", "t5 = add t0 1; t6 = add t5 1; t2 = copy t6"},
		{"a chain to nobody", "t5 = add t0 1; t6 = add t5 1; t3 = copy t6", ""},
		{"what a dead one needs", "t5 = com t0; t6 = com t5; t5 = copy 1; t2 = copy t5", "t5 = copy 1; t2 = copy t5"},
		{"a Dst that is set again", "t2 = copy 1; t2 = copy 2", "t2 = copy 2"},
		{"set again, used between", "t2 = copy 1; t4 = copy t2; t2 = copy 2", "t2 = copy 1; t4 = copy t2; t2 = copy 2"},
		{"set again by a division", "t5 = copy 1; t5 = div t0 t1; t2 = copy t5", "t5 = div t0 t1; t2 = copy t5"},
		{"set again by a load", "t5 = copy 1; t5 = T[t5]; t2 = copy t5", "t5 = copy 1; t5 = T[t5]; t2 = copy t5"},
		{"set again by a load of another", "t5 = copy 1; t5 = T[0]; t2 = copy t5", "t5 = T[0]; t2 = copy t5"},
		{"its own argument", "t2 = copy t2", "t2 = copy t2"},
		{"its own argument, again and again", "t2 = add t2 1; t2 = mul t2 t2; t2 = com t2", "t2 = add t2 1; t2 = mul t2 t2; t2 = com t2"},
		{"its own argument, and dead", "t5 = copy 1; t5 = add t5 1; t5 = copy t5", ""},
		{"its own argument, of a division", "t5 = copy 1; t5 = div t5 t5", "t5 = copy 1; t5 = div t5 t5"},
		{"divisions whose Dst nobody needs", "t5 = add t0 1; t6 = div t5 2; t7 = rem t6 t5", "t5 = add t0 1; t6 = div t5 2; t7 = rem t6 t5"},
		{"loads whose Dst nobody needs", "t5 = add t0 1; t6 = T[t5]; t7 = com t6", "t5 = add t0 1; t6 = T[t5]"},
		{"a store's arguments", "t5 = com t0; t6 = neg t0; t7 = copy 1; a[t5] = t6", "t5 = com t0; t6 = neg t0; a[t5] = t6"},
		{"a release's argument", "t5 = com t0; release t5; t5 = neg t0", "t5 = com t0; release t5"},
		{"all three arguments", "t5 = com t0; t6 = neg t0; t7 = copy t1; t2 = sel t5 t6 t7", "t5 = com t0; t6 = neg t0; t7 = copy t1; t2 = sel t5 t6 t7"},
		{"numbers for arguments", "t5 = com t0; t6 = neg t0; t2 = sel t5 0 1", "t5 = com t0; t2 = sel t5 0 1"},
		{"temp 0, which others have as no Dst", "t0 = copy 3; a[1] = 2; release t1; if t1 { } t2 = copy t0", "t0 = copy 3; a[1] = 2; release t1; if t1 { }; t2 = copy t0"},
		{"temp 0, which others have as no argument", "t0 = copy 3; t2 = com t1; release t1; if t1 { }", "t2 = com t1; release t1; if t1 { }"},
		{"a copy of an array's word", "t5 = b[0]; t3 = copy t5", "t5 = b[0]"},
	} {
		droppedIs(t, r.what, r.code, r.want)
	}
}

// TestDropOfIfs: what is needed in one part alone, behind it alone, in both (F19.3).
func TestDropOfIfs(t *testing.T) {
	for _, r := range []struct{ what, code, want string }{
		{"empty", "if t0 { }", "if t0 { }"},
		{"its argument", "t5 = com t0; if t5 { }", "t5 = com t0; if t5 { }"},
		{"a number", "t5 = com t0; if 1 { }", "if 1 { }"},
		{"what becomes empty", "if t0 { t5 = copy 1 } else { t6 = copy 2 }", "if t0 { }"},
		{"Else becomes empty", "if t0 { release 1 } else { t6 = copy 2 }", "if t0 { release 1 }"},
		{"Then becomes empty", "if t0 { t6 = copy 2 } else { release 1 }", "if t0 { } else { release 1 }"},
		{"needed in Then alone", "t5 = com t0; t6 = neg t0; if t0 { t2 = copy t5 }", "t5 = com t0; if t0 { t2 = copy t5 }"},
		{"needed in Else alone", "t5 = com t0; t6 = neg t0; if t0 { } else { t2 = copy t6 }", "t6 = neg t0; if t0 { } else { t2 = copy t6 }"},
		{"needed in both", "t5 = com t0; if t0 { t2 = copy t5 } else { release t5 }", "t5 = com t0; if t0 { t2 = copy t5 } else { release t5 }"},
		{"needed behind it alone", "t5 = com t0; if t0 { t6 = copy t5 } t2 = copy t5", "t5 = com t0; if t0 { }; t2 = copy t5"},
		{"needed by a dead one in a part", "t5 = com t0; if t0 { t6 = copy t5; t7 = copy t6 }", "if t0 { }"},
		{"set in both parts", "t5 = com t0; if t0 { t5 = copy 1 } else { t5 = copy 2 } t2 = copy t5", "if t0 { t5 = copy 1 } else { t5 = copy 2 }; t2 = copy t5"},
		{"set in Then alone", "t5 = com t0; if t0 { t5 = copy 1 } t2 = copy t5", "t5 = com t0; if t0 { t5 = copy 1 }; t2 = copy t5"},
		{"set in Else alone", "t5 = com t0; if t0 { } else { t5 = copy 1 } t2 = copy t5", "t5 = com t0; if t0 { } else { t5 = copy 1 }; t2 = copy t5"},
		{"set in both, used in Then ahead of that", "t5 = com t0; if t0 { t6 = copy t5; t5 = copy t6 } else { t5 = copy 2 } t2 = copy t5", "t5 = com t0; if t0 { t6 = copy t5; t5 = copy t6 } else { t5 = copy 2 }; t2 = copy t5"},
		{"set in both, and by the if's argument", "t5 = com t0; if t5 { t5 = copy 1 } else { t5 = copy 2 } t2 = copy t5", "t5 = com t0; if t5 { t5 = copy 1 } else { t5 = copy 2 }; t2 = copy t5"},
		{"set in both, needed by nobody behind", "t5 = com t0; if t0 { t5 = copy 1 } else { t5 = copy 2 } t5 = copy 3; t2 = copy t5", "if t0 { }; t5 = copy 3; t2 = copy t5"},
		{"set behind the if", "if t0 { t2 = copy 1; release t2 } else { t2 = copy 2 } t2 = copy 3", "if t0 { t2 = copy 1; release t2 }; t2 = copy 3"},
		{"set twice in a part", "if t0 { t2 = copy 1; t2 = copy 2 } else { t2 = copy 3; t4 = copy t2; t2 = copy 4 }", "if t0 { t2 = copy 2 } else { t2 = copy 3; t4 = copy t2; t2 = copy 4 }"},
		{"set by a division in a part", "t5 = com t0; if t0 { t5 = div 1 2 } else { t5 = T[0] } t2 = copy t5", "if t0 { t5 = div 1 2 } else { t5 = T[0] }; t2 = copy t5"},
		{"set in one part of a number's if", "t5 = com t0; if 1 { t5 = copy 1 } t2 = copy t5", "t5 = com t0; if 1 { t5 = copy 1 }; t2 = copy t5"},
		{"ifs within", "t5 = com t0; t6 = neg t0; t7 = copy 1; if t0 { if t1 { t2 = copy t5 } else { t6 = copy 3 } } else { if t6 { t7 = copy t5 } }", "t5 = com t0; t6 = neg t0; if t0 { if t1 { t2 = copy t5 } } else { if t6 { } }"},
		{"set in all four", "t5 = com t0; if t0 { if t1 { t5 = copy 1 } else { t5 = copy 2 } } else { if t1 { t5 = copy 3 } else { t5 = copy 4 } } t2 = copy t5", "if t0 { if t1 { t5 = copy 1 } else { t5 = copy 2 } } else { if t1 { t5 = copy 3 } else { t5 = copy 4 } }; t2 = copy t5"},
		{"set in three of four", "t5 = com t0; if t0 { if t1 { t5 = copy 1 } else { t5 = copy 2 } } else { if t1 { t5 = copy 3 } } t2 = copy t5", "t5 = com t0; if t0 { if t1 { t5 = copy 1 } else { t5 = copy 2 } } else { if t1 { t5 = copy 3 } }; t2 = copy t5"},
		{"the outputs at the end", "t2 = copy 1; t4 = copy 2; if t0 { t2 = copy 3 } else { t4 = copy 4 }", "t2 = copy 1; t4 = copy 2; if t0 { t2 = copy 3 } else { t4 = copy 4 }"},
		{"the outputs, both set in both", "t2 = copy 1; t4 = copy 2; if t0 { t2 = copy 3; t4 = copy 3 } else { t4 = copy 4; t2 = copy 4 }", "if t0 { t2 = copy 3; t4 = copy 3 } else { t4 = copy 4; t2 = copy 4 }"},
		{"one if behind another", "t5 = copy 1; if t0 { t5 = copy 2 } if t1 { release t5 } t5 = copy 3; if t1 { t2 = copy 5 }", "t5 = copy 1; if t0 { t5 = copy 2 }; if t1 { release t5 }; if t1 { t2 = copy 5 }"},
	} {
		droppedIs(t, r.what, r.code, r.want)
	}
}

// droppedIs: what Drop makes of a code, with nothing else turned.
func droppedIs(t testing.TB, what, code, want string) {
	t.Helper()
	f := read(t, dropHead, 8, code)
	g := dropped(t, f)
	codeIs(t, what, g, want)
	same(t, what+", by the plain reading", g, plainDrop(f))
	is(t, what, []int{g.Width, g.Line, g.Temps, len(g.Decls)}, []int{f.Width, f.Line, f.Temps, len(f.Decls)})
	same(t, what+", twice", dropped(t, g), g)
	for _, in := range [][]uint64{{0, 0}, {5, 0}, {0, 9}, {255, 2}} {
		keepsSeen(t, what, f, g, in, inputs(7, in[1]))
	}
}

// TestDropEnds: at the end just the singles of the kind DOut are needed (F19.3).
func TestDropEnds(t *testing.T) {
	for _, kind := range []string{"public", "secret", "var", "out"} {
		f := read(t, "var a[2]; "+kind+" s; const T[1] = 1; out o[2];", 3, "t0 = copy 1; t1 = copy 2; t2 = copy 3")
		want := map[bool]string{true: "t0 = copy 1"}[kind == "out"]
		codeIs(t, kind, dropped(t, f), want)
	}
	f := read(t, "out a; out b; out c;", 4, "t3 = copy 1; t2 = copy 2; t1 = copy 3; t0 = copy 4")
	codeIs(t, "three outputs", dropped(t, f), "t2 = copy 2; t1 = copy 3; t0 = copy 4")
	f = read(t, "", 2, "t0 = copy 1; t1 = com t0; release t0")
	codeIs(t, "no declaration", dropped(t, f), "t0 = copy 1; release t0")
}

// TestDropGreat: as much code as there may be, in rows and in ifs, by the hand's count (F19.3, P1).
func TestDropGreat(t *testing.T) {
	const most = 1 << 18
	f := bareFlat(t, dropHead, 1<<20)
	for i := range most {
		f.Code = append(f.Code, api.Ins{Op: api.EAdd, Dst: 8 + i, A: temp(7 + i), B: temp(0)})
	}
	is(t, "a chain to nobody", sizeOf(t, dropped(t, f)), 0)
	f.Code[most-1] = api.Ins{Op: api.FRelease, A: temp(7 + most - 1)}
	is(t, "a chain to a release", sizeOf(t, dropped(t, f)), most)
	f.Code = nil
	for i := range most / 2 { // each if needs its own temp, and sets it
		f.Code = append(f.Code, api.Ins{Op: api.FIf, A: temp(8 + i), Then: []api.Ins{{Op: api.FCopy, Dst: 8 + i, A: temp(8 + i + 1)}}})
	}
	is(t, "ifs in a row", sizeOf(t, dropped(t, f)), most/2)
	f.Code = append(f.Code[:most/4], releasesOf(8, most/2)...)
	is(t, "ifs in a row that are needed", sizeOf(t, dropped(t, f)), most)
	var inner []api.Ins
	for i := range most/2 - 64 {
		inner = append(inner, api.Ins{Op: api.ESel, Dst: 8 + i, A: temp(most + 3*i), B: temp(most + 3*i + 1), C: temp(most + 3*i + 2)})
	}
	f.Code = nested(64, inner, func(i int) bool { return i%2 == 0 })
	is(t, "deep, and dead", sizeOf(t, dropped(t, f)), 64)
	f.Code = append(f.Code, releasesOf(8, most/2)...)
	is(t, "deep, and needed", sizeOf(t, dropped(t, f)), most)
}

// releasesOf: a release for each of so many temps.
func releasesOf(first, n int) []api.Ins {
	var list []api.Ins
	for i := range n {
		list = append(list, api.Ins{Op: api.FRelease, A: temp(first + i)})
	}
	return list
}

package flat

import (
	"fmt"
	"testing"

	"cadence/api"
	"cadence/bits"
)

// foldHead: k 0, n 1, x 2, v 3, y 4; three temps more.
const foldHead = "width 8; secret k; public n; out x; var v; const T[4] = 1, 2, 3, 4; out y; var a[2]; out b[2];"

// TestFold: what is known and what becomes of it, by hand (F19.4).
func TestFold(t *testing.T) {
	for _, r := range []struct{ what, code, want string }{
		{"nothing", "", ""},
		{"variables and outputs at the beginning", "release t2; release t3; release t4", "release 0; release 0; release 0"},
		{"temps at the beginning", "release t5; release t6; release t7", "release 0; release 0; release 0"},
		{"inputs at the beginning", "release t0; release t1", "release t0; release t1"},
		{"an input that is set", "t0 = copy 5; release t0", "t0 = copy 5; release 5"},
		{"a copy of a number", "t5 = copy 7; t2 = copy t5; release t2", "t5 = copy 7; t2 = copy 7; release 7"},
		{"a copy of an input", "t5 = copy t0; t2 = copy t5; release t2", "t5 = copy t0; t2 = copy t5; release t2"},
		{"a copy of itself", "t5 = copy t5; t0 = copy t0; release t0", "t5 = copy 0; t0 = copy t0; release t0"},
		{"known no more", "t5 = copy 7; release t5; t5 = copy t0; release t5", "t5 = copy 7; release 7; t5 = copy t0; release t5"},
		{"known no more, and again", "t5 = com t0; release t5; t5 = copy 7; release t5", "t5 = com t0; release t5; t5 = copy 7; release 7"},
		{"of numbers and another", "t5 = add t0 t6; t7 = mul t3 t1; release t5", "t5 = add t0 0; t7 = mul 0 t1; release t5"},
		{"0 times something", "t5 = mul 0 t0; release t5", "t5 = mul 0 t0; release t5"},
		{"something less itself", "t5 = sub t0 t0; release t5", "t5 = sub t0 t0; release t5"},
		{"of numbers alone", "t5 = add 2 3; t6 = mul t5 t5; release t6", "t5 = copy 5; t6 = copy 25; release 25"},
		{"its own argument", "t5 = add t5 1; t5 = add t5 1; release t5", "t5 = copy 1; t5 = copy 2; release 2"},
		{"its own argument, known no more", "t5 = add t5 t0; t5 = add t5 1; release t5", "t5 = add 0 t0; t5 = add t5 1; release t5"},
		{"choice of numbers", "t5 = sel t6 2 3; t7 = sel 9 t5 4; release t7", "t5 = copy 3; t7 = copy 3; release 3"},
		{"choice by a number of others", "t5 = sel t6 2 t0; t7 = sel t0 2 2", "t5 = sel 0 2 t0; t7 = sel t0 2 2"},
		{"divisions of numbers", "t5 = copy 9; t6 = div t5 2; t7 = rem t5 t3; release t6; release t7", "t5 = copy 9; t6 = div 9 2; t7 = rem 9 0; release t6; release t7"},
		{"a division's Dst is known no more", "t5 = copy 9; t5 = div t5 t5; release t5", "t5 = copy 9; t5 = div 9 9; release t5"},
		{"loads at numbers", "t5 = copy 9; t6 = T[t5]; t7 = a[t3]; release t6; release t7", "t5 = copy 9; t6 = T[9]; t7 = a[0]; release t6; release t7"},
		{"a load's Dst is known no more", "t5 = T[t5]; release t5", "t5 = T[0]; release t5"},
		{"stores", "t5 = copy 9; a[t5] = t6; a[t0] = t5; a[t5] = t0; t7 = a[1]; release t7", "t5 = copy 9; a[9] = 0; a[t0] = 9; a[9] = t0; t7 = a[1]; release t7"},
		{"numbers that come out at the width's edge", "t5 = copy 255; t6 = add t5 t5; t7 = com t6; release t7", "t5 = copy 255; t6 = copy 254; t7 = copy 1; release 1"},
	} {
		foldedIs(t, r.what, r.code, r.want)
	}
}

// TestFoldOfEach: each operation of numbers becomes a copy of what comes out, but divisions (F19.4).
func TestFoldOfEach(t *testing.T) {
	for _, width := range widths() {
		for kind := api.ECom; kind <= api.ESel; kind++ {
			for _, a := range edges(width) {
				for _, b := range edges(width) {
					of := []uint64{a, b, 3}[:partsOf(kind)]
					f := bareFlat(t, fmt.Sprintf("width %d; secret k; out x;", width), 6)
					x := api.Ins{Op: kind, Dst: 5}
					for i, arg := range plainArgs(&x) {
						f.Code = append(f.Code, api.Ins{Op: api.FCopy, Dst: 2 + i, A: number(of[i])})
						*arg = temp(2 + i)
					}
					f.Code = append(f.Code, x, api.Ins{Op: api.FCopy, Dst: 1, A: temp(5)})
					g := folded(t, f)
					last := g.Code[len(g.Code)-2:]
					if kind == api.EDiv || kind == api.ERem {
						is(t, "a division", last, []api.Ins{{Op: kind, Dst: 5, A: number(a), B: number(b)}, {Op: api.FCopy, Dst: 1, A: temp(5)}})
						continue
					}
					word := number(plainWord(kind, width, of))
					is(t, fmt.Sprint(kindWords()[kind-api.ECom], " of ", of), last, []api.Ins{{Op: api.FCopy, Dst: 5, A: word}, {Op: api.FCopy, Dst: 1, A: word}})
				}
			}
		}
	}
}

// TestFoldOfIfs: what both parts know as the same, as others, in one part alone, of an if of a number (F19.4).
func TestFoldOfIfs(t *testing.T) {
	for _, r := range []struct{ what, code, want string }{
		{"empty", "if t0 { }", "if t0 { }"},
		{"its argument", "t5 = copy 3; if t5 { } if t6 { } if t0 { }", "t5 = copy 3; if 3 { }; if 0 { }; if t0 { }"},
		{"what is known ahead of it", "t5 = copy 3; if t0 { release t5 } else { release t5; release t6 } release t5", "t5 = copy 3; if t0 { release 3 } else { release 3; release 0 }; release 3"},
		{"both the same", "if t0 { t5 = copy 3 } else { t5 = copy 3 } release t5", "if t0 { t5 = copy 3 } else { t5 = copy 3 }; release 3"},
		{"both the same, by other ways", "if t0 { t5 = add 1 2 } else { t6 = copy 4; t5 = sub t6 1 } release t5; release t6", "if t0 { t5 = copy 3 } else { t6 = copy 4; t5 = copy 3 }; release 3; release t6"},
		{"unlike", "if t0 { t5 = copy 3 } else { t5 = copy 4 } release t5", "if t0 { t5 = copy 3 } else { t5 = copy 4 }; release t5"},
		{"in Then alone", "if t0 { t5 = copy 3; release t5 } release t5", "if t0 { t5 = copy 3; release 3 }; release t5"},
		{"in Else alone", "if t0 { release t5 } else { t5 = copy 3; release t5 } release t5", "if t0 { release 0 } else { t5 = copy 3; release 3 }; release t5"},
		{"in Then alone, as it was", "t5 = copy 3; if t0 { t5 = copy 3 } release t5", "t5 = copy 3; if t0 { t5 = copy 3 }; release 3"},
		{"in Else alone, as it was", "if t0 { } else { t5 = copy 0 } release t5", "if t0 { } else { t5 = copy 0 }; release 0"},
		{"in Then, and back", "t5 = copy 3; if t0 { t5 = copy 4; release t5; t5 = copy 3 } release t5", "t5 = copy 3; if t0 { t5 = copy 4; release 4; t5 = copy 3 }; release 3"},
		{"in Then known no more", "t5 = copy 3; if t0 { t5 = com t0; release t5 } else { release t5 } release t5", "t5 = copy 3; if t0 { t5 = com t0; release t5 } else { release 3 }; release t5"},
		{"in Else known no more", "t5 = copy 3; if t0 { release t5 } else { t5 = com t0; release t5 } release t5", "t5 = copy 3; if t0 { release 3 } else { t5 = com t0; release t5 }; release t5"},
		{"known in one, not in the other", "t5 = com t0; if t0 { t5 = copy 3 } else { t5 = com t1 } release t5", "t5 = com t0; if t0 { t5 = copy 3 } else { t5 = com t1 }; release t5"},
		{"not known ahead, in both the same", "t5 = com t0; if t0 { release t5; t5 = copy 3 } else { release t5; t5 = copy 3 } release t5", "t5 = com t0; if t0 { release t5; t5 = copy 3 } else { release t5; t5 = copy 3 }; release 3"},
		{"not known ahead, in one alone", "t5 = com t0; if t0 { t5 = copy 3 } release t5", "t5 = com t0; if t0 { t5 = copy 3 }; release t5"},
		{"an input, in both the same", "if t0 { t0 = copy 3; t1 = copy 4 } else { t0 = copy 3 } release t0; release t1", "if t0 { t0 = copy 3; t1 = copy 4 } else { t0 = copy 3 }; release 3; release t1"},
		{"Then of a number", "if 1 { t5 = copy 3 } else { t5 = copy 4 } release t5", "if 1 { t5 = copy 3 } else { t5 = copy 4 }; release 3"},
		{"Else of a number", "if 0 { t5 = copy 3 } else { t5 = copy 4 } release t5", "if 0 { t5 = copy 3 } else { t5 = copy 4 }; release 4"},
		{"an empty Else of a number", "if 0 { t5 = copy 3; release t5 } release t5", "if 0 { t5 = copy 3; release 3 }; release 0"},
		{"an empty Then of a number", "if 7 { } else { t5 = com t0; release t5 } release t5", "if 7 { } else { t5 = com t0; release t5 }; release 0"},
		{"Then of a number, known no more", "if 7 { t5 = com t0 } else { t5 = copy 3 } release t5", "if 7 { t5 = com t0 } else { t5 = copy 3 }; release t5"},
		{"Else of a number, known no more", "if t6 { t5 = copy 3 } else { t5 = com t0 } release t5", "if 0 { t5 = copy 3 } else { t5 = com t0 }; release t5"},
		{"a number that became one", "t6 = eq t5 0; if t6 { t7 = copy 3 } else { t7 = com t0 } release t7", "t6 = copy 1; if 1 { t7 = copy 3 } else { t7 = com t0 }; release 3"},
		{"a part that is not done is folded too", "t5 = copy 3; if 0 { t6 = add t5 1; release t6 } release t6", "t5 = copy 3; if 0 { t6 = copy 4; release 4 }; release 0"},
		{"Then knows nothing of Else", "if t0 { t5 = copy 3 } else { release t5; t5 = copy 4 } release t5", "if t0 { t5 = copy 3 } else { release 0; t5 = copy 4 }; release t5"},
		{"the argument, set within", "t5 = com t0; if t5 { t5 = copy 3; release t5 } release t5", "t5 = com t0; if t5 { t5 = copy 3; release 3 }; release t5"},
		{"its argument is not known by the part", "if t0 { } else { release t0 }", "if t0 { } else { release t0 }"},
		{"ifs within", "if t0 { if t1 { t5 = copy 3 } else { t5 = copy 3 } release t5 } else { t5 = copy 3 } release t5", "if t0 { if t1 { t5 = copy 3 } else { t5 = copy 3 }; release 3 } else { t5 = copy 3 }; release 3"},
		{"ifs within, one unlike", "if t0 { if t1 { t5 = copy 3 } else { t5 = copy 4 } release t5; t6 = copy 1 } else { t5 = copy 3; t6 = copy 1 } release t5; release t6", "if t0 { if t1 { t5 = copy 3 } else { t5 = copy 4 }; release t5; t6 = copy 1 } else { t5 = copy 3; t6 = copy 1 }; release t5; release 1"},
		{"ifs of numbers within", "if t0 { if 1 { t5 = copy 3 } release t5 } else { if 0 { t5 = copy 9 } else { t5 = copy 3 } } release t5", "if t0 { if 1 { t5 = copy 3 }; release 3 } else { if 0 { t5 = copy 9 } else { t5 = copy 3 } }; release 3"},
		{"deep within alone", "t5 = copy 3; if t0 { if t1 { if t0 { t5 = copy 4; release t5 } release t5 } release t5 } release t5", "t5 = copy 3; if t0 { if t1 { if t0 { t5 = copy 4; release 4 }; release t5 }; release t5 }; release t5"},
		{"deep within, and set again behind that", "if t0 { if t1 { t5 = copy 4 } t5 = copy 7 } else { if t1 { t5 = copy 8 } else { t6 = copy 5 } t5 = copy 7 } release t5; release t6", "if t0 { if t1 { t5 = copy 4 }; t5 = copy 7 } else { if t1 { t5 = copy 8 } else { t6 = copy 5 }; t5 = copy 7 }; release 7; release t6"},
		{"one if behind another", "if t0 { t5 = copy 3 } if t0 { t5 = copy 3 } else { t5 = copy 3 } release t5; if t1 { t5 = copy 4 } release t5", "if t0 { t5 = copy 3 }; if t0 { t5 = copy 3 } else { t5 = copy 3 }; release 3; if t1 { t5 = copy 4 }; release t5"},
		{"within, behind another within", "if t0 { if t1 { t5 = copy 1 } if t1 { t6 = copy 2 } else { release t5 } } else { release t5; release t6 } release t5; release t6", "if t0 { if t1 { t5 = copy 1 }; if t1 { t6 = copy 2 } else { release t5 } } else { release 0; release 0 }; release t5; release t6"},
	} {
		foldedIs(t, r.what, r.code, r.want)
	}
}

// foldedIs: what Fold makes of a code, with nothing else turned.
func foldedIs(t testing.TB, what, code, want string) {
	t.Helper()
	f := read(t, foldHead, 8, code)
	g := folded(t, f)
	codeIs(t, what, g, want)
	same(t, what+", by the plain reading", g, plainFold(f))
	is(t, what, []int{g.Width, g.Line, g.Temps, len(g.Decls)}, []int{f.Width, f.Line, f.Temps, len(f.Decls)})
	same(t, what+", twice", folded(t, g), g)
	for _, in := range [][]uint64{{0, 0}, {5, 0}, {0, 9}, {255, 2}} {
		sameEnd(t, what, f, in, ranWith(t, g, in), ranWith(t, f, in))
	}
}

// TestFoldBeginnings: of singles what is known at the beginning hangs on their kinds (F19.4).
func TestFoldBeginnings(t *testing.T) {
	for kind, want := range map[string]string{"public": "release t0", "secret": "release t0", "var": "release 0", "out": "release 0"} {
		f := read(t, "secret b[2]; "+kind+" s; const T[1] = 1;", 2, "release t0; release t1")
		codeIs(t, kind, folded(t, f), want+"; release 0")
	}
	f := read(t, "secret a; var b; public c; out d; secret e;", 6, "release t0; release t1; release t2; release t3; release t4; release t5")
	codeIs(t, "each", folded(t, f), "release t0; release 0; release t2; release 0; release t4; release 0")
}

// TestFoldGreat: as much code as there may be, in rows and in ifs (F19.4, P1).
func TestFoldGreat(t *testing.T) {
	const most = 1 << 18
	f := bareFlat(t, "width 32; secret k; out x;", 1<<20)
	for i := range most {
		f.Code = append(f.Code, api.Ins{Op: api.EAdd, Dst: 3 + i, A: temp(2 + i), B: number(1)})
	}
	g := folded(t, f)
	is(t, "the last of a chain", g.Code[most-1], api.Ins{Op: api.FCopy, Dst: 2 + most, A: number(most)})
	f.Code[0].A = temp(0)
	same(t, "a chain of which nothing is known", folded(t, f), f)
	f.Code = nil
	for i := range most / 2 {
		f.Code = append(f.Code, api.Ins{Op: api.FIf, A: temp(0), Then: []api.Ins{{Op: api.EAdd, Dst: 3 + i, A: temp(2 + i), B: number(1)}}})
	}
	g = folded(t, f)
	is(t, "the first of ifs in a row", g.Code[0].Then[0], api.Ins{Op: api.FCopy, Dst: 3, A: number(1)})
	is(t, "the last of ifs in a row", g.Code[most/2-1], f.Code[most/2-1])
	var inner []api.Ins
	for i := range most/2 - 64 {
		inner = append(inner, api.Ins{Op: api.EAdd, Dst: 3 + i, A: temp(2 + i), B: number(1)})
	}
	f.Code = nested(64, inner, func(i int) bool { return i%2 == 0 })
	setArgs(f.Code)
	f.Code = append(f.Code, releasesOf(2, most/2)...)
	g = folded(t, f)
	is(t, "what no part sets", g.Code[1], api.Ins{Op: api.FRelease, A: number(0)})
	is(t, "what one part sets", g.Code[2], api.Ins{Op: api.FRelease, A: temp(3)})
	is(t, "what no part sets", g.Code[most/2], api.Ins{Op: api.FRelease, A: number(0)})
	if text := textOf(t, g); len(text) < most || text[len(text)-10:] != "release 0\n" {
		t.Fatal("its text")
	}
	is(t, "the deepest of all, behind it", bits.Text(ranWith(t, g, inputs(1)).State[1][0]), "0")
}

// setArgs: ifs of the first temp, of which nothing is known.
func setArgs(list []api.Ins) {
	for i := range list {
		if list[i].Op == api.FIf {
			list[i].A = temp(0)
			setArgs(list[i].Then)
			setArgs(list[i].Else)
		}
	}
}

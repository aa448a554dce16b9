package flat

import (
	"fmt"
	"strings"
	"testing"

	"cadence/api"
	"cadence/bits"
)

const textHead = "width 64; secret k; out x; var NAME[4]; const Table_2[1] = 9;"

// TestLinesOfText: a line for each kind of instruction, whole (F19.5).
func TestLinesOfText(t *testing.T) {
	for i, word := range strings.Fields("com neg mul div rem add sub shl shr rol ror and xor or eq ne lt le gt ge sar slt sel") {
		x := api.Ins{Op: api.ECom + i, Dst: 5}
		want := "t5 = " + word
		for j, a := range plainArgs(&x) {
			*a = []api.Arg{{Temp: 1}, {Temp: -1, Num: 2}, {Temp: 3}}[j]
			want += []string{" t1", " 2", " t3"}[j]
		}
		textIs(t, want+"\n", x)
	}
	textIs(t, "t5 = copy t1\n", api.Ins{Op: api.FCopy, Dst: 5, A: temp(1)})
	textIs(t, "t0 = copy 7\n", api.Ins{Op: api.FCopy, A: number(7)})
	textIs(t, "t5 = NAME[t1]\n", api.Ins{Op: api.FLoad, Dst: 5, Array: 2, A: temp(1)})
	textIs(t, "t5 = NAME[300]\n", api.Ins{Op: api.FLoad, Dst: 5, Array: 2, A: number(300)})
	textIs(t, "t4 = Table_2[t0]\n", api.Ins{Op: api.FLoad, Dst: 4, Array: 3, A: temp(0)})
	textIs(t, "NAME[t1] = t2\n", api.Ins{Op: api.FStore, Array: 2, A: temp(1), B: temp(2)})
	textIs(t, "NAME[0] = 0x3e8\n", api.Ins{Op: api.FStore, Array: 2, A: number(0), B: number(1000)})
	textIs(t, "release t1\n", api.Ins{Op: api.FRelease, A: temp(1)})
	textIs(t, "release 999\n", api.Ins{Op: api.FRelease, A: number(999)})
	textIs(t, "if t1 {\n}\n", api.Ins{Op: api.FIf, A: temp(1)})
	textIs(t, "if 0xffffffffffffffff {\n}\n", api.Ins{Op: api.FIf, A: number(1<<64 - 1)})
	textIs(t, "")
}

// textIs: the text of instructions, with seven temps.
func textIs(t testing.TB, want string, code ...api.Ins) {
	t.Helper()
	f := bareFlat(t, textHead, 7)
	f.Code = code
	if got := textOf(t, f); got != want {
		t.Fatalf("%q, not %q", got, want)
	}
}

// TestNumbersOfText: by bits.Text, and temps as they are counted (F19.5).
func TestNumbersOfText(t *testing.T) {
	for _, n := range []uint64{0, 1, 9, 10, 999, 1000, 1001, 4096, 1 << 32, 1<<64 - 1} {
		textIs(t, "release "+bits.Text(n)+"\n", api.Ins{Op: api.FRelease, A: number(n)})
	}
	f := bareFlat(t, textHead, 1<<20)
	for _, n := range []int{0, 6, 10, 999, 1000, 1001, 65535, 1<<20 - 1} {
		f.Code = []api.Ins{{Op: api.ECom, Dst: n, A: temp(n)}}
		is(t, "a temp", textOf(t, f), fmt.Sprintf("t%d = com t%d\n", n, n))
	}
}

// TestIfsOfText: ifs within ifs, parts that are empty, and what stands behind (F19.5).
func TestIfsOfText(t *testing.T) {
	for _, r := range []struct{ code, want string }{
		{"if t0 { release 1 }", "if t0 {\n  release 1\n}\n"},
		{"if t0 { release 1; release 2 } release 3", "if t0 {\n  release 1\n  release 2\n}\nrelease 3\n"},
		{"if t0 { } else { release 1 }", "if t0 {\n} else {\n  release 1\n}\n"},
		{"if t0 { release 1 } else { release 2; release 3 }", "if t0 {\n  release 1\n} else {\n  release 2\n  release 3\n}\n"},
		{"if t0 { release 1 } else { }", "if t0 {\n  release 1\n}\n"},
		{"if t0 { if t1 { release 1 } else { release 2 } } else { if 3 { } }", "if t0 {\n  if t1 {\n    release 1\n  } else {\n    release 2\n  }\n} else {\n  if 3 {\n  }\n}\n"},
		{"if t0 { release 1; if t1 { if t2 { release 2 } release 3 } release 4 } release 5", "if t0 {\n  release 1\n  if t1 {\n    if t2 {\n      release 2\n    }\n    release 3\n  }\n  release 4\n}\nrelease 5\n"},
		{"if 1 { } if 0 { }", "if 1 {\n}\nif 0 {\n}\n"},
		{"if t0 { } else { if t0 { } else { NAME[1] = t2; t3 = NAME[t2] } }", "if t0 {\n} else {\n  if t0 {\n  } else {\n    NAME[1] = t2\n    t3 = NAME[t2]\n  }\n}\n"},
	} {
		is(t, r.code, textOf(t, read(t, textHead, 7, r.code)), r.want)
	}
	deep := bareFlat(t, textHead, 7)
	deep.Code = nested(64, releases(1), func(i int) bool { return i%2 == 0 })
	text := textOf(t, deep)
	if !strings.Contains(text, "\n"+strings.Repeat("  ", 64)+"release t0\n") {
		t.Fatal("the deepest one: ", text)
	}
	is(t, "how many lines", strings.Count(text, "\n"), 64*2+32+1)
}

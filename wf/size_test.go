package wf

import (
	"fmt"
	"math"
	"testing"

	"cadence/api"
)

// TestSize: what each kind of statement counts (F16.2).
func TestSize(t *testing.T) {
	five := of(api.EAdd, load("a", num(1)), of(api.ENeg, name("x"))) // add, load, 1, neg, x
	for _, r := range []struct {
		what string
		p    api.Program
		size int
	}{
		{"nothing", api.Program{Name: "p", Width: 4, Line: 1}, 0},
		{"declarations", base(), 0},
		{"release", base(release("x")), 1},
		{"set", base(set("x", num(1))), 2},
		{"set of five", base(set("x", five)), 6},
		{"store", base(store("a", num(0), name("x"))), 3},
		{"store of five", base(store("a", num(0), five)), 7},
		{"store at five", base(store("a", five, num(0))), 7},
		{"store at five, of five", base(store("a", five, five)), 11},
		{"if", base(branch(num(1), nil, nil)), 2},
		{"if of five", base(branch(five, nil, nil)), 6},
		{"if with then", base(branch(num(1), list(release("x"), release("x")), nil)), 4},
		{"if with else", base(branch(num(1), nil, list(set("x", five), release("x")))), 9},
		{"if with both", base(branch(five, list(set("x", five)), list(release("x")))), 13},
		{"for without anything", base(repeat("i", 0, 4)), 5},
		{"for that is not done", base(repeat("i", 0, 0, set("x", five))), 1},
		{"for that is not done from 7 on", base(repeat("i", 7, 7, set("x", five), release("x"))), 1},
		{"for once", base(repeat("i", 0, 1, release("x"))), 3},
		{"for from 3 to 10", base(repeat("i", 3, 10, release("x"), set("x", name("i")))), 1 + 7*(1+1+2)},
		{"for in for", base(repeat("i", 0, 3, repeat("j", 2, 7, release("x")), release("x"))), 1 + 3*(1+(1+5*(1+1))+1)},
		{"for that is not done, in for", base(repeat("i", 0, 3, repeat("j", 2, 2, release("x")))), 1 + 3*(1+1)},
		{"for in for that is not done", base(repeat("i", 3, 3, repeat("j", 0, 7, release("x")))), 1},
		{"one behind the other", base(release("x"), repeat("i", 0, 2, set("x", num(1))), branch(num(0), nil, nil)), 1 + (1 + 2*3) + 2},
		{"sel", base(set("x", of(api.ESel, num(1), num(2), num(3)))), 5},
	} {
		sizeIs(t, r.what, r.p, r.size)
		is(t, r.what, plainSize(r.p.Body), r.size)
	}
}

// releases: so many statements of the size 1.
func releases(n int) []api.Stmt {
	var out []api.Stmt
	for range n {
		out = append(out, release("x"))
	}
	return out
}

// full: statements whose size is just 65536.
type full struct {
	what string
	body []api.Stmt
}

func fulls() []full {
	return []full{
		{"releases", releases(65536)},
		{"a loop", list(repeat("i", 0, 65535))},
		{"a loop further up", list(repeat("i", 1, 65536))},
		{"a loop of releases", append(list(repeat("i", 0, 32767, release("x"))), release("x"))},
		{"a loop in a loop", list(repeat("i", 0, 257, repeat("j", 0, 253)))},
		{"three loops within one another", append(list(repeat("i", 0, 1, repeat("j", 0, 2, repeat("l", 0, 1, releases(32760)...), release("x"), release("x")))), releases(3)...)},
		{"an if", list(branch(num(1), releases(65534), nil))},
		{"an if with both parts", list(branch(num(1), releases(30000), releases(35534)))},
		{"an if with loops", list(branch(num(1), list(repeat("i", 0, 32766)), list(repeat("i", 0, 32766))))},
		{"what is not done counts once", list(repeat("i", 9, 9, repeat("j", 0, 65535)), repeat("i", 0, 65534))},
		{"stores", append(list(repeat("i", 0, 16383, store("a", num(0), num(1)))), release("x"), release("x"), release("x"))},
	}
}

// TestFull: clause 16: a size of 65536, and one more.
func TestFull(t *testing.T) {
	for _, f := range fulls() {
		more := f.body[:len(f.body):len(f.body)]
		sizeIs(t, f.what, wide(32, f.body...), 65536)
		faultIs(t, f.what+", one ahead", wide(32, append(list(release("x")), f.body...)...), at(16, -1))
		faultIs(t, f.what+", one behind", wide(32, append(more, release("x"))...), at(16, -1))
		faultIs(t, f.what+", in an if", wide(32, branch(num(1), f.body, nil)), at(16, -1))
		faultIs(t, f.what+", in an else", wide(32, branch(num(1), nil, f.body)), at(16, -1))
		faultIs(t, f.what+", in a loop", wide(32, repeat("k", 0, 1, f.body...)), at(16, -1))
		sizeIs(t, f.what+", in a loop that is not done", wide(32, repeat("k", 4, 4, f.body...)), 1)
		faultIs(t, f.what+", twice", wide(32, append(more, f.body...)...), at(16, -1))
	}
	faultIs(t, "an expression too great", base(set("x", bush(16))), at(16, -1))
	sizeIs(t, "an expression that fits", base(set("x", bush(15))), 1+65535)
	sizeIs(t, "a loop of all words of 16 bits but one", wide(16, repeat("i", 0, 65535)), 65536)
	faultIs(t, "a loop of all words of 16 bits", wide(16, repeat("i", 0, 65536)), at(16, -1))
}

// bush: an expression with two parts at each place, so many levels above the last: its size is 2 to that and one, less 1.
func bush(levels int) api.Expr {
	e := num(1)
	for range levels {
		e = of(api.EAdd, e, e)
	}
	return e
}

// loopsIn: loops within one another, with these bounds from 0 on, the outermost first.
func loopsIn(bounds []uint64, inner ...api.Stmt) api.Stmt {
	body := inner
	for i := len(bounds) - 1; i >= 0; i-- {
		body = list(repeat(fmt.Sprint("i", i), 0, bounds[i], body...))
	}
	return body[0]
}

// TestFarTooGreat: sizes beyond any machine's number, those too that would come round to a small one (clause 16).
func TestFarTooGreat(t *testing.T) {
	all := []uint64{}
	for range 62 {
		all = append(all, math.MaxUint64)
	}
	for _, bounds := range [][]uint64{
		{1 << 32}, {1 << 63}, {math.MaxUint64}, {math.MaxUint64 - 1},
		{1 << 32, 1 << 32}, {1 << 32, 1<<32 - 1}, {1 << 31, 1<<32 - 1}, {1<<32 - 1, 1<<32 - 1}, {1 << 63, 1}, {1 << 63, 2}, {1 << 62, 3}, {4, 1 << 62}, {2, 1 << 63}, {1, 1 << 63},
		{1 << 16, 1 << 16, 1 << 16, 1 << 16}, {65536, 65536}, {256, 256}, {math.MaxUint64, 0}, {65537, 0}, {2, math.MaxUint64}, {1, math.MaxUint64}, {math.MaxUint64, math.MaxUint64}, all,
	} {
		for _, inner := range [][]api.Stmt{nil, {release("x")}, {set("x", num(1))}, releases(3)} {
			s := loopsIn(bounds, inner...)
			faultIs(t, fmt.Sprint("loops of ", bounds), wide(64, s), at(16, -1))
			faultIs(t, fmt.Sprint("two loops of ", bounds), wide(64, s, s), at(16, -1))
			faultIs(t, fmt.Sprint("loops of ", bounds, " in an if"), wide(64, branch(num(1), list(s), nil)), at(16, -1))
			if len(bounds) < 60 {
				sizeIs(t, fmt.Sprint("loops of ", bounds, ", not done"), wide(64, repeat("k", 1, 1, s), release("x")), 2)
				sizeIs(t, fmt.Sprint("loops of ", bounds, ", not done, many times"), wide(64, repeat("j", 0, 100, repeat("k", 1, 1, s))), 1+100*2)
			}
		}
	}
	for _, b := range [][2]uint64{{1 << 63, math.MaxUint64}, {1, math.MaxUint64}, {math.MaxUint64 - 65536, math.MaxUint64}} {
		faultIs(t, fmt.Sprint("bounds ", b), wide(64, repeat("i", b[0], b[1])), at(16, -1))
	}
	faultIs(t, "loops of at most 65536 that come round to 1", wide(32, comesRound()), at(16, -1))
	is(t, "what they come to", plainStmtSize(comesRound()), "18446744073709551617")
	sizeIs(t, "bounds far up", wide(64, repeat("i", math.MaxUint64-65535, math.MaxUint64)), 65536)
	sizeIs(t, "the last word", wide(64, repeat("i", math.MaxUint64-1, math.MaxUint64, release("x"))), 3)
}

// comesRound: a loop whose size is 2 to the 64th and 1, though none of its loops is done more than 65536 times.
func comesRound() api.Stmt {
	const n = 65536
	d := repeat("l", 0, n-3)                                // n - 2
	c := list(repeat("k", 0, n-4), repeat("k", 0, n, d))    // n * n - 2
	b := list(repeat("j", 0, n-3), repeat("j", 0, n, c...)) // n * n * n - 1
	return repeat("i", 0, n, b...)
}

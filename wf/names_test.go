package wf

import (
	"fmt"
	"slices"
	"strings"
	"testing"

	"cadence/api"
)

// TestPlaces: what stands at each place of a program with all kinds, by the names that are known there (F16.3).
func TestPlaces(t *testing.T) {
	p := parsed(t, `secret k; const T[2] = 1, 2; out x; var a[4];
begin
  x = k + 1;
  a[x] = T[k];
  for i 0 2 {
    if i == k { for j 0 2 { x = j; } release x; } else { for b 0 1 { a[b] = i; } x = sel(1, ~x, k); }
    release x;
  }
  for j 0 1 { }
  release x;
end`)
	want := []string{
		"", "k", "T k", "T k x", // the declarations: T stands ahead of k by its byte
		"T a k x", "T a k x", "T a k x", "T a k x", // x = k + 1
		"T a k x", "T a k x", "T a k x", "T a k x", // a[x] = T[k]
		"T a k x",                                          // for i
		"T a i k x", "T a i k x", "T a i k x", "T a i k x", // if i == k
		"T a i k x", "T a i j k x", "T a i j k x", "T a i k x", // for j, x = j, release
		"T a i k x", "T a b i k x", "T a b i k x", "T a b i k x", // for b, a[b] = i
		"T a i k x", "T a i k x", "T a i k x", "T a i k x", "T a i k x", "T a i k x", // x = sel(1, ~x, k)
		"T a i k x",          // release
		"T a k x", "T a k x", // for j, release
	}
	is(t, "things", thingsOf(t, p), len(want))
	for place, names := range want {
		is(t, fmt.Sprint("place ", place), namesAt(t, p, place), names)
		is(t, fmt.Sprint("plainly, place ", place), strings.Join(plainNames(p, spotsOf(p), place), " "), names)
	}
	for _, place := range append(nowhere(), len(want), len(want)+1) {
		noNames(t, p, place)
	}
	right(t, "all kinds", p)
}

// TestNameOrder: names rise by their bytes, each once (F16.3).
func TestNameOrder(t *testing.T) {
	p := base(repeat("zz", 0, 1, repeat("_", 0, 1, repeat("B", 0, 1, repeat("a", 0, 1, repeat("zz", 0, 1, repeat("x_1", 0, 1, release("x"))))))))
	p.Decls = append(p.Decls, single(api.DVar, "Z"), single(api.DVar, "a1"), single(api.DVar, "a"), single(api.DVar, "aB"), single(api.DVar, "ab"), single(api.DVar, "a_"), single(api.DVar, "a10"), single(api.DVar, "a2"), single(api.DVar, "x"))
	is(t, "all", namesAt(t, p, 12+6), "B T Z _ a a1 a10 a2 aB a_ ab x x_1 zz")
	is(t, "at the last loop", namesAt(t, p, 12+5), "B T Z _ a a1 a10 a2 aB a_ ab x zz")
	is(t, "at the first loop", namesAt(t, p, 12), "T Z a a1 a10 a2 aB a_ ab x")
	is(t, "at the last declaration", namesAt(t, p, 11), "T Z a a1 a10 a2 aB a_ ab x")
	is(t, "at the second a", namesAt(t, p, 5), "T Z a a1 x")
	is(t, "behind the second a", namesAt(t, p, 6), "T Z a a1 x")
	is(t, "at the first", namesAt(t, p, 0), "")
}

// TestThings: each part of a statement and of an expression has a place (F16.3).
func TestThings(t *testing.T) {
	for _, r := range []struct {
		what string
		s    api.Stmt
		n    int
	}{
		{"release", release("x"), 1},
		{"set", set("x", num(1)), 2},
		{"store", store("a", num(1), num(2)), 3},
		{"if", branch(num(1), nil, nil), 2},
		{"if with both", branch(num(1), releases(2), releases(3)), 7},
		{"for", repeat("i", 0, 1000), 1},
		{"for of two", repeat("i", 0, 1000, releases(2)...), 3},
		{"for that is not done", repeat("i", 3, 3, releases(2)...), 3},
		{"sel", set("x", of(api.ESel, num(1), load("a", num(2)), of(api.EAdd, num(3), of(api.ENeg, num(1))))), 9},
	} {
		for _, h := range stmtHosts(r.s) {
			without := stmtHosts(release("x"))
			i := slices.IndexFunc(without, func(o hosted) bool { return o.what == h.what })
			is(t, r.what+" "+h.what, thingsOf(t, h.p), thingsOf(t, without[i].p)-1+r.n)
		}
		is(t, r.what, thingsOf(t, base(r.s)), 3+r.n)
		is(t, r.what+" twice", thingsOf(t, base(r.s, r.s)), 3+2*r.n)
	}
}

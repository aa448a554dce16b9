package flow

import (
	"slices"
	"testing"

	"cadence/api"
)

// TestFewerSecrets: a secret that becomes public is a source no more, and all else stays as it was; so what is typed stays so (P1803).
func TestFewerSecrets(t *testing.T) {
	k := picker(1803)
	typed, became := 0, 0
	for i := range 400 {
		p := rightProgram(t, &k, maker{tame: i%2 == 0})
		before := isTyped(t, p)
		for _, secret := range secretsOf(p) {
			q := copyProgram(p)
			q.Decls[secret].Kind = api.DPublic
			after := isTyped(t, q)
			if before && !after {
				t.Fatalf("typed no more without %d, of\n%s", secret, shown(p))
			}
			if before {
				typed++
			} else if after {
				became++
			}
			lessThat(t, &k, p, q, secret)
		}
	}
	if typed < 200 || became < 50 {
		t.Fatal("too few: ", typed, became)
	}
}

// lessThat: the sources of q are those of p, less one; and so high are those that have one left.
func lessThat(t testing.TB, k *picker, p, q api.Program, secret int) {
	t.Helper()
	ends := endsOf(t, q)
	for i, list := range endsOf(t, p) {
		is(t, "its end", ends[i], without(list, secret))
	}
	was, still := highOf(t, p), highOf(t, q)
	for _, place := range still {
		if !slices.Contains(was, place) {
			t.Fatalf("high without %d alone: %d, of\n%s", secret, place, shown(p))
		}
	}
	for _, place := range somePlaces(t, k, p) {
		list, e := Sources(p, place)
		less, bad := Sources(q, place)
		if e != bad || !slices.Equal(less, without(list, secret)) {
			t.Fatalf("sources at %d: %v (%d), not %v (%d) without %d, of\n%s", place, less, bad, list, e, secret, shown(p))
		}
		if slices.Contains(was, place) && slices.Contains(still, place) != (len(less) > 0) {
			t.Fatalf("high without %d: %v, of\n%s", secret, still, shown(p))
		}
	}
}

// TestWithoutSecrets: a right program without a secret is typed (P1803).
func TestWithoutSecrets(t *testing.T) {
	k := picker(18031)
	for range 500 {
		p := rightProgram(t, &k, maker{})
		for i := range p.Decls {
			if p.Decls[i].Kind == api.DSecret {
				p.Decls[i].Kind = pickOf(&k, api.DPublic, api.DVar, api.DOut)
			}
		}
		if !isTyped(t, p) {
			t.Fatalf("high: %v, of\n%s", highOf(t, p), shown(p))
		}
		for _, list := range endsOf(t, p) {
			is(t, "its end", list, []int{})
		}
		for _, place := range somePlaces(t, &k, p) {
			if list, _ := Sources(p, place); len(list) > 0 {
				t.Fatalf("sources at %d: %v, of\n%s", place, list, shown(p))
			}
		}
	}
}

// TestGreaterLines: Line doubled makes no expression high that was not, and no source (P1804).
func TestGreaterLines(t *testing.T) {
	k := picker(1804)
	fewer := 0
	for range 400 {
		p := rightProgram(t, &k, maker{tame: k.below(2) == 0})
		p.Line = 1
		high, ends := highOf(t, p), endsOf(t, p)
		for p.Line < 256 {
			p.Line *= 2
			next := highOf(t, p)
			for _, place := range next {
				if !slices.Contains(high, place) {
					t.Fatalf("high with line %d alone: %d, of\n%s", p.Line, place, shown(p))
				}
			}
			if len(next) < len(high) {
				fewer++
			}
			high = next
			is(t, "ends", endsOf(t, p), ends)
		}
		for i := range p.Decls { // with the greatest line no index is seen: nor is one in an array of one word
			p.Decls[i].Size = min(p.Decls[i].Size, 1)
			if p.Decls[i].Kind == api.DConst {
				p.Decls[i].Values = p.Decls[i].Values[:1]
			}
		}
		is(t, "ifs and divisions", highOf(t, p), high)
	}
	if fewer < 150 {
		t.Fatal("too few: ", fewer)
	}
}

// TestMoreRounds: a loop that is done once more has all the sources that it had (by the chapter's words of a loop).
func TestMoreRounds(t *testing.T) {
	k := picker(18041)
	grew := 0
	for range 150 {
		p := rightProgram(t, &k, maker{small: true})
		p.Body = []api.Stmt{{Kind: api.SFor, Name: "again", Hi: 1, Then: p.Body}}
		before := map[int][]int{}
		places := somePlaces(t, &k, p)
		for rounds := range uint64(6) {
			p.Body[0].Hi = rounds
			if _, e := High(p); e != api.OK {
				break
			}
			for _, place := range places {
				list, _ := Sources(p, place)
				for _, number := range before[place] {
					if !slices.Contains(list, number) {
						t.Fatalf("%d is gone at %d with %d rounds, of\n%s", number, place, rounds, shown(p))
					}
				}
				if rounds > 1 && len(list) > len(before[place]) {
					grew++
				}
				before[place] = list
			}
		}
	}
	if grew < 100 {
		t.Fatal("too few: ", grew)
	}
}

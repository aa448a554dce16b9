package check

import (
	"fmt"
	"testing"

	"cadence/api"
)

// sameQueries: two lists of queries.
func sameQueries(t testing.TB, what string, got, want []Query) {
	t.Helper()
	if got, want := fmt.Sprintf("%#v", got), fmt.Sprintf("%#v", want); got != want {
		t.Fatalf("%s: queries %s, not %s", what, cut(got), cut(want))
	}
}

// TestManyPrograms: many programs with many budgets, against the plain reading: the verdict, the witness, the counters and the queries (F24.1 to F24.3).
func TestManyPrograms(t *testing.T) {
	k := picker(2401)
	kinds := map[string]int{}
	for range 500 {
		p := rightProgram(t, &k, maker{small: k.below(2) == 0, wild: k.below(4) == 0})
		for range 3 {
			b := anyBudget(&k, fair())
			l, want := plainly(p, b)
			verdictIs(t, shown(p), p, b, want)
			got, _ := Queries(p, b)
			sameQueries(t, shown(p), got, l)
			kinds[kindWord(want.Kind)]++
			if want.Kind == api.Unknown {
				kinds[fmt.Sprint("unknown", want.Which)]++
			}
			if want.Kind == api.Leak && len(l) > 1 {
				kinds["later leak"]++
			}
			if want.Kind != api.Unknown && want.Used.Paths > 2 {
				kinds["ways"]++
			}
			if len(l) > 1 && len(l[len(l)-1].Truths) > 2 {
				kinds["assumed"]++
			}
		}
	}
	for _, kind := range []string{"Secure", "Leak", "unknown1", "unknown2", "unknown3", "unknown4", "later leak", "ways", "assumed"} {
		if kinds[kind] < 20 {
			t.Fatal("too few: ", kind, kinds[kind], kinds)
		}
	}
}

package check

import (
	"cadence/pair"
	"cadence/term"
)

// queries: those of one check. The ways of a check have one store, so a truth that is assumed by many queries is made text once.
type queries struct {
	list  []Query
	texts []string
	place map[int]int // of a truth among the texts
}

func (l *queries) add(w *pair.Way, truths []int, kind int) {
	q := Query{Events: w.Events(), Kind: kind}
	for _, t := range truths {
		q.Truths = append(q.Truths, l.text(w.Store(), t))
	}
	l.list = append(l.list, q)
}

func (l *queries) text(s *term.Store, truth int) string {
	i, known := l.place[truth]
	if !known {
		if l.place == nil {
			l.place = map[int]int{}
		}
		i = len(l.texts)
		text, _ := s.Dump(truth)
		l.texts = append(l.texts, text)
		l.place[truth] = i
	}
	return l.texts[i]
}

package flow

import "cadence/api"

// walk goes through a program: it keeps what each declaration hangs on, and tells what each expression does, each time that it comes to it.
type walk struct {
	now  hanging
	tell func(x *expr, on sources)
}

// through: what each declaration hangs on at the end.
func (c *code) through(tell func(x *expr, on sources)) hanging {
	w := walk{tell: tell}
	for _, number := range c.secrets {
		w.now[number] = only(number)
	}
	w.stmts(c.body)
	return w.now
}

func (w *walk) stmts(list []stmt) {
	for i := range list {
		w.stmt(&list[i])
	}
}

func (w *walk) stmt(s *stmt) {
	switch s.kind {
	case api.SSet:
		w.now[s.number] = w.expr(&s.e)
	case api.SStore:
		at, e := w.expr(&s.at), w.expr(&s.e) // both ahead of the store, since they may load from that array
		w.now[s.number].add(at)
		w.now[s.number].add(e)
	case api.SIf:
		w.branch(s)
	case api.SFor:
		w.loop(s)
	case api.SRelease:
		w.now[s.number] = sources{}
	}
}

func (w *walk) branch(s *stmt) {
	w.expr(&s.e) // it is told, but no source of what is set: where it has one, it is high
	ahead := w.now
	w.stmts(s.then)
	then := w.now
	w.now = ahead
	w.stmts(s.otherwise)
	w.now.add(&then)
}

// loop goes through a loop until nothing new comes: from then on all rounds would be the same.
func (w *walk) loop(s *stmt) {
	ahead := w.now
	for range s.rounds {
		w.now = ahead
		w.stmts(s.then)
		again := ahead
		again.add(&w.now)
		if again == ahead {
			return
		}
		ahead = again
	}
}

func (w *walk) expr(x *expr) sources {
	var on sources
	if x.number != nobody {
		on = w.now[x.number]
	}
	for i := range x.kids {
		on.add(w.expr(&x.kids[i]))
	}
	w.tell(x, on)
	return on
}

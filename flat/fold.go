package flat

import "cadence/api"

// folder goes through flat code that may be, and knows what stands for each temp where it is: the number as which the temp is known, or else the temp itself.
type folder struct {
	width  int
	stands []api.Arg // by temps; whoever goes through a part of an if writes to the same list, and takes it back
	within int       // how many ifs it stands in
	marks  []int     // by temps: within how many ifs the part stands that turned it last; 0, if no part that is gone through did
	turned []turn    // of a part of an if: what it has turned so far, each temp once
}

// turn: what stood for a temp ahead of a part of an if, and what stands for it behind that.
type turn struct {
	temp    int
	was, is api.Arg
	mark    int // what its mark was
}

// newFolder stands at the beginning of the code, where all temps but the inputs' are 0.
func newFolder(f *api.Flat) *folder {
	out := &folder{width: f.Width, stands: make([]api.Arg, f.Temps), marks: make([]int, f.Temps)}
	for i := range out.stands {
		out.stands[i] = number(0)
	}
	for i, decl := range singles(f.Decls) {
		if kind := f.Decls[decl].Kind; kind == api.DPublic || kind == api.DSecret {
			out.stands[i] = temp(i)
		}
	}
	return out
}

// set: from here on that stands for a temp.
func (f *folder) set(n int, a api.Arg) {
	if f.marks[n] != f.within {
		f.turned = append(f.turned, turn{temp: n, was: f.stands[n], mark: f.marks[n]})
		f.marks[n] = f.within
	}
	f.stands[n] = a
}

// block: what instructions become, one behind the other.
func (f *folder) block(list []api.Ins) []api.Ins {
	var out []api.Ins
	for _, x := range list {
		for _, a := range args(&x) {
			if !isNumber(*a) {
				*a = f.stands[a.Temp]
			}
		}
		if word, is := constant(f.width, &x); is {
			x = api.Ins{Op: api.FCopy, Dst: x.Dst, A: number(word)}
		}
		f.pass(&x)
		out = append(out, x)
	}
	return out
}

// pass goes behind an instruction whose arguments are folded.
func (f *folder) pass(x *api.Ins) {
	switch {
	case x.Op == api.FIf:
		f.branch(x)
	case x.Op == api.FCopy && isNumber(x.A):
		f.set(x.Dst, x.A)
	case hasDst(x.Op):
		f.set(x.Dst, temp(x.Dst))
	}
}

func (f *folder) branch(x *api.Ins) {
	var then, otherwise []turn
	x.Then, then = f.part(x.Then, nil)
	x.Else, otherwise = f.part(x.Else, then)
	switch {
	case !isNumber(x.A):
		f.take(then)
		f.meet(otherwise)
	case x.A.Num != 0:
		f.take(then)
	default:
		f.take(otherwise)
	}
}

// part: what a part of an if becomes, and what it turns; what the other part turned is told too, turned or not. The receiver is a copy with turns of its own, which are taken back: so what is known parts at an if, and yet no more is copied than its parts turn.
func (f folder) part(list []api.Ins, other []turn) ([]api.Ins, []turn) {
	f.within, f.turned = f.within+1, nil
	for _, t := range other {
		f.set(t.temp, t.was)
	}
	out := f.block(list)
	for i := range f.turned {
		t := &f.turned[i]
		t.is, f.stands[t.temp] = f.stands[t.temp], t.was
		f.marks[t.temp] = t.mark
	}
	return out, f.turned
}

// take: behind the if it is as the part knows it.
func (f *folder) take(part []turn) {
	for _, t := range part {
		f.set(t.temp, t.is)
	}
}

// meet: what this part knows otherwise than the one that was taken is known no more.
func (f *folder) meet(part []turn) {
	for _, t := range part {
		if f.stands[t.temp] != t.is {
			f.set(t.temp, temp(t.temp))
		}
	}
}

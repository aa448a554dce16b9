package flat

import (
	"cadence/api"
	"cadence/bits"
	"cadence/wf"
)

const (
	mostTemps  = 1 << 20
	mostCode   = 1 << 18 // instructions in all
	mostWithin = 64      // ifs that an instruction stands in
)

// looker looks at code that is handed in, and may be anything: lists can stand in one another again and again, or in themselves.
type looker struct {
	flat *api.Flat
	size int // instructions so far
}

// counted: how many instructions flat code has; false, if it may not be.
func counted(f *api.Flat) (int, bool) {
	if wf.Check(bare(f)) != api.OK || f.Temps < len(singles(f.Decls)) || f.Temps > mostTemps {
		return 0, false
	}
	l := looker{flat: f}
	if !l.block(f.Code, 0) {
		return 0, false
	}
	return l.size, true
}

// block: may instructions be that stand within so many others? It goes no deeper, and over no more of them, than there may be.
func (l *looker) block(list []api.Ins, within int) bool {
	if len(list) == 0 {
		return true
	}
	if within > mostWithin || len(list) > mostCode-l.size {
		return false
	}
	l.size += len(list)
	for i := range list {
		x := &list[i]
		if !l.ins(x) || !l.block(x.Then, within+1) || !l.block(x.Else, within+1) {
			return false
		}
	}
	return true
}

// ins: has an instruction what its operation has, and nothing else? What stands in it is looked at on its own.
func (l *looker) ins(x *api.Ins) bool {
	has := arity(x.Op)
	if has == 0 {
		return false
	}
	for i, a := range []api.Arg{x.A, x.B, x.C} {
		if i < has && !l.arg(a) || i >= has && a != (api.Arg{}) {
			return false
		}
	}
	return l.dst(x) && l.array(x) && (x.Op == api.FIf || len(x.Then) == 0 && len(x.Else) == 0)
}

func (l *looker) arg(a api.Arg) bool {
	if a.Temp == -1 {
		return bits.Trim(l.flat.Width, a.Num) == a.Num
	}
	return l.isTemp(a.Temp) && a.Num == 0
}

func (l *looker) dst(x *api.Ins) bool {
	if hasDst(x.Op) {
		return l.isTemp(x.Dst)
	}
	return x.Dst == 0
}

func (l *looker) array(x *api.Ins) bool {
	if !hasArray(x.Op) {
		return x.Array == 0
	}
	if x.Array < 0 || x.Array >= len(l.flat.Decls) {
		return false
	}
	d := &l.flat.Decls[x.Array]
	return d.Size > 0 && (x.Op == api.FLoad || d.Kind != api.DConst)
}

func (l *looker) isTemp(n int) bool { return n >= 0 && n < l.flat.Temps }

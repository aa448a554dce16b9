package flat

import (
	"maps"
	"slices"

	"cadence/api"
)

// needs: temps that are needed.
type needs map[int]struct{}

// dropper goes backward through flat code that may be, and knows what is needed where it stands.
type dropper struct {
	needed needs
}

// newDropper stands at the end of the code.
func newDropper(f *api.Flat) *dropper {
	d := &dropper{needed: needs{}}
	for i, decl := range singles(f.Decls) {
		if f.Decls[decl].Kind == api.DOut {
			d.needed[i] = struct{}{}
		}
	}
	return d
}

// block: instructions, one behind the other, without those that are dead; the dropper stands ahead of them then.
func (d *dropper) block(list []api.Ins) []api.Ins {
	var kept []api.Ins
	for _, x := range slices.Backward(list) {
		if d.isDead(&x) {
			continue
		}
		if hasDst(x.Op) {
			delete(d.needed, x.Dst)
		}
		if x.Op == api.FIf {
			x.Then, x.Else = d.parts(&x)
		}
		d.ask(&x)
		kept = append(kept, x)
	}
	slices.Reverse(kept)
	return kept
}

// isDead: does nobody need an instruction, nor see it?
func (d *dropper) isDead(x *api.Ins) bool {
	if !isQuiet(x.Op) && x.Op != api.FCopy {
		return false
	}
	_, needed := d.needed[x.Dst]
	return !needed
}

// ask: the arguments of an instruction are needed.
func (d *dropper) ask(x *api.Ins) {
	for _, a := range args(x) {
		if !isNumber(*a) {
			d.needed[a.Temp] = struct{}{}
		}
	}
}

// parts: both parts of an if, without what is dead in them.
func (d *dropper) parts(x *api.Ins) (then, otherwise []api.Ins) {
	set := needs{}
	d.take(x.Then, set)
	d.take(x.Else, set)
	one, other := dropper{maps.Clone(set)}, dropper{set}
	then, otherwise = one.block(x.Then), other.block(x.Else)
	d.needed = joined(d.needed, joined(one.needed, other.needed))
	return then, otherwise
}

// take: those temps that are needed here and set somewhere in instructions are needed there, and here no more. All others stay: whether they are needed turns nothing within, and so a part has no more to copy than it sets.
func (d *dropper) take(list []api.Ins, set needs) {
	for i := range list {
		x := &list[i]
		if _, needed := d.needed[x.Dst]; needed && hasDst(x.Op) {
			delete(d.needed, x.Dst)
			set[x.Dst] = struct{}{}
		}
		d.take(x.Then, set)
		d.take(x.Else, set)
	}
}

// joined: all that is in one or the other, in the greater one's map.
func joined(a, b needs) needs {
	if len(a) < len(b) {
		a, b = b, a
	}
	maps.Copy(a, b)
	return a
}

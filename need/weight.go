package need

import "cadence/api"

// weight: what the chapter's table says of an instruction. Its numbers are small, since widths and sizes are.
type weight struct {
	terms, gates int64
	asks         bool // is it a query?
}

// weigh: the weight of an instruction of code that may be.
func (c *counter) weigh(x *api.Ins) weight {
	w := int64(c.flat.Width)
	switch op := x.Op; {
	case op == api.ENeg || op == api.EAdd || op == api.ESub:
		return weight{terms: 2, gates: 20 * w}
	case op >= api.EAnd && op <= api.EOr:
		return weight{terms: 2, gates: 8 * w}
	case op == api.EMul:
		return weight{terms: 2, gates: 24 * w * w}
	case op == api.EDiv || op == api.ERem:
		return weight{terms: 2, gates: 48*w*w + 80*w + 8, asks: true}
	case op >= api.EShl && op <= api.ERor || op == api.ESar:
		return weight{terms: 2, gates: 48 * w}
	case op >= api.EEq && op <= api.EGe || op == api.ESlt:
		return weight{terms: 2, gates: 32 * w}
	case op == api.ESel:
		return weight{terms: 2, gates: 24 * w}
	case op == api.FLoad:
		size := c.size(x)
		return weight{terms: 2 * size, gates: 8*w*size + 80, asks: true}
	case op == api.FStore:
		size := c.size(x)
		return weight{terms: 2 * size, gates: 8*w*size + 80*size + 80, asks: true}
	case op == api.FRelease:
		return weight{terms: 2, gates: 12 * w}
	case op == api.FIf:
		return weight{terms: 2, gates: 24*w + 8, asks: true}
	}
	return weight{terms: 2} // ECom and FCopy make no gate
}

// size: that of the array that is loaded from, or stored to.
func (c *counter) size(x *api.Ins) int64 { return int64(c.flat.Decls[x.Array].Size) }

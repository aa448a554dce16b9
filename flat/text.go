package flat

import (
	"strconv"
	"strings"

	"cadence/api"
	"cadence/bits"
)

// writer tells flat code that may be, line by line.
type writer struct {
	decls []api.Decl
	text  strings.Builder
}

// line: the parts of one, behind what stands ahead of all lines there.
func (w *writer) line(margin string, parts ...string) {
	w.text.WriteString(margin)
	for _, s := range parts {
		w.text.WriteString(s)
	}
	w.text.WriteByte('\n')
}

func (w *writer) block(list []api.Ins, margin string) {
	for i := range list {
		w.ins(&list[i], margin)
	}
}

func (w *writer) ins(x *api.Ins, margin string) {
	switch x.Op {
	case api.FLoad:
		w.line(margin, told(temp(x.Dst)), " = ", w.word(x))
	case api.FStore:
		w.line(margin, w.word(x), " = ", told(x.B))
	case api.FIf:
		w.branch(x, margin)
	case api.FRelease:
		w.line(margin, "release ", told(x.A))
	default:
		parts := []string{told(temp(x.Dst)), " = ", words[x.Op]}
		for _, a := range args(x) {
			parts = append(parts, " ", told(*a))
		}
		w.line(margin, parts...)
	}
}

func (w *writer) branch(x *api.Ins, margin string) {
	within := margin + "  "
	w.line(margin, "if ", told(x.A), " {")
	w.block(x.Then, within)
	if len(x.Else) > 0 {
		w.line(margin, "} else {")
		w.block(x.Else, within)
	}
	w.line(margin, "}")
}

// word: the word of an array at the index that an instruction has.
func (w *writer) word(x *api.Ins) string { return w.decls[x.Array].Name + "[" + told(x.A) + "]" }

// told: an argument.
func told(a api.Arg) string {
	if isNumber(a) {
		return bits.Text(a.Num)
	}
	return "t" + strconv.Itoa(a.Temp)
}

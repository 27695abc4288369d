package logic

import (
	"strings"

	"arbor/api"
)

// writer writes a text as long as it is not too long, and counts the bytes of all of it.
type writer struct {
	text strings.Builder
	size int
}

func (w *writer) write(pieces ...string) {
	for _, s := range pieces {
		w.size += len(s)
		if w.size <= api.MaxText {
			w.text.WriteString(s)
		}
	}
}

// formula writes a formula that is without fault.
func (w *writer) formula(f api.Formula) {
	switch f.Kind {
	case api.FTrue:
		w.write("true")
	case api.FFalse:
		w.write("false")
	case api.FNear:
		w.write(f.A, " ~ ", f.B)
	case api.FSame:
		w.write(f.A, " = ", f.B)
	case api.FIn:
		w.write(f.A, " in ", f.B)
	case api.FNot:
		w.write("not ")
		w.formula(f.Kids[0])
	case api.FAnd:
		w.two(f, " and ")
	case api.FOr:
		w.two(f, " or ")
	case api.FThen:
		w.two(f, " -> ")
	case api.FAll:
		w.bound(f, "(all ")
	case api.FSome:
		w.bound(f, "(some ")
	}
}

func (w *writer) two(f api.Formula, between string) {
	w.write("(")
	w.formula(f.Kids[0])
	w.write(between)
	w.formula(f.Kids[1])
	w.write(")")
}

func (w *writer) bound(f api.Formula, ahead string) {
	w.write(ahead, f.A, ": ")
	w.formula(f.Kids[0])
	w.write(")")
}

package live

import "slices"

// change does something, and keeps what takes it back.
func (h *House) change(do, back func()) {
	do()
	h.back = append(h.back, back)
	h.hangs = &together{}
}

// takeBack takes the last change back. As changes are taken back from the last one on, the graph is then as that change left it.
func (h *House) takeBack() {
	last := len(h.back) - 1
	h.back[last]()
	h.back = slices.Delete(h.back, last, last+1) // it writes over what is gone, which need not be kept
	h.hangs = &together{}
}

// settle gives the next number to a node.
func (h *House) settle(name string) {
	h.numbers[name] = len(h.names)
	h.names = append(h.names, name)
}

// leave takes the last node away; its edges came behind it, so that they are gone already.
func (h *House) leave() {
	last := len(h.names) - 1
	delete(h.numbers, h.names[last])
	h.names = h.names[:last]
}

func (h *House) put(e [2]int) { h.edges[e] = struct{}{} }

func (h *House) take(e [2]int) { delete(h.edges, e) }

func (h *House) has(e [2]int) bool {
	_, ok := h.edges[e]
	return ok
}

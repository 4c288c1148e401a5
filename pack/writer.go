package pack

import (
	"strings"

	"temple/api"
)

// writer is a builder of bytes; what goes over the limit it keeps one byte of,
// which tells that there is more.
type writer struct {
	strings.Builder
}

// put writes some numbers as T's, the highest byte first, up to one that does
// not fit.
func put[T number](w *writer, numbers ...int) bool {
	for _, n := range numbers {
		if uint64(T(n)) != uint64(n) {
			return false
		}
		for i := range width[T]() {
			w.add(byte(n >> (8 * (width[T]() - 1 - i))))
		}
	}
	return true
}

func (w *writer) add(c byte) {
	if w.Len() <= api.MaxCert {
		w.WriteByte(c)
	}
}

// cert goes on behind the limit, too: what does not fit is told first.
func (w *writer) cert(c api.Cert) bool {
	w.WriteString(mark)
	if !put[uint32](w, c.Root, len(c.Nodes)) {
		return false
	}
	for _, n := range c.Nodes {
		if !w.node(n) {
			return false
		}
	}
	return true
}

func (w *writer) node(n api.Node) bool {
	at := n.Place
	if !isNode(n) ||
		!put[uint8](w, signNumber(n.Sign), n.Kind) ||
		!put[uint16](w, n.Name, at.Rule) ||
		!put[uint8](w, at.Conj, at.Pos, n.I, n.J) ||
		!put[uint32](w, n.Rank) ||
		!put[uint16](w, len(n.Picks)) {
		return false
	}
	for _, p := range n.Picks {
		if !w.pick(p) {
			return false
		}
	}
	return true
}

func (w *writer) pick(p api.Pick) bool {
	return put[uint16](w, p.At) &&
		put[uint8](w, p.Conj, len(p.Kids)) &&
		put[uint32](w, p.Kids...)
}

// signNumber is the number that a sign is written as.
func signNumber(sign bool) int {
	if sign {
		return 1
	}
	return 0
}

package pack

import (
	"strings"

	"temple/api"
)

// reader is what of the bytes has not been read. A record is read as what it
// is, or as nil, where the bytes are none: whoever takes it asserts it.
type reader struct {
	rest string
}

// take reads some numbers that are T's, the highest byte first, up to one that
// is cut off.
func take[T number](r *reader, numbers ...*int) bool {
	for _, n := range numbers {
		if len(r.rest) < width[T]() {
			return false
		}
		value := 0
		for _, c := range []byte(r.rest[:width[T]()]) {
			value = value<<8 | int(c)
		}
		*n = value
		r.rest = r.rest[width[T]():]
	}
	return true
}

// cert reads a proof, behind which is nothing.
func (r *reader) cert() (api.Cert, bool) {
	var c api.Cert
	var nodes int
	if !r.mark() || !take[uint32](r, &c.Root, &nodes) || nodes > api.MaxNodes {
		return api.Cert{}, false
	}
	for range nodes {
		n, ok := r.node().(api.Node)
		if !ok {
			return api.Cert{}, false
		}
		c.Nodes = append(c.Nodes, n)
	}
	if r.rest != "" {
		return api.Cert{}, false
	}
	return c, true
}

func (r *reader) mark() bool {
	rest, ok := strings.CutPrefix(r.rest, mark)
	r.rest = rest
	return ok
}

// node reads an api.Node.
func (r *reader) node() any {
	var n api.Node
	var sign, picks int
	at := &n.Place
	if !take[uint8](r, &sign, &n.Kind) ||
		!take[uint16](r, &n.Name, &at.Rule) ||
		!take[uint8](r, &at.Conj, &at.Pos, &n.I, &n.J) ||
		!take[uint32](r, &n.Rank) ||
		!take[uint16](r, &picks) ||
		sign > 1 || !isNode(n) {
		return nil
	}
	n.Sign = sign == 1
	for range picks {
		p, ok := r.pick().(api.Pick)
		if !ok {
			return nil
		}
		n.Picks = append(n.Picks, p)
	}
	return n
}

// pick reads an api.Pick.
func (r *reader) pick() any {
	var p api.Pick
	var kids int
	if !take[uint16](r, &p.At) || !take[uint8](r, &p.Conj, &kids) {
		return nil
	}
	for range kids {
		var kid int
		if !take[uint32](r, &kid) {
			return nil
		}
		p.Kids = append(p.Kids, kid)
	}
	return p
}

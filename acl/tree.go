package acl

import "guidepost/api"

// node stands behind some first bits of addresses: the next bit, 0 or 1, tells which branch goes on. It keeps no prefix, as the way to it is one.
type node struct {
	branches [2]*node
	action   int // of the rule whose prefix ends here; 0 if there is none
}

// add lets a rule be found, unless there is one of its prefix.
func (n *node) add(r api.Rule) bool {
	for at := range r.Prefix.Bits {
		b := piece(r.Prefix.Addr, at, 1)
		if n.branches[b] == nil {
			n.branches[b] = &node{}
		}
		n = n.branches[b]
	}
	if n.action != 0 {
		return false
	}
	n.action = r.Action
	return true
}

// find is the Action of the longest prefix on an address's way, and its Bits; 0 if none is there.
func (n *node) find(a api.Addr) (action, bits int) {
	for at := 0; n != nil; at++ {
		if n.action != 0 {
			action, bits = n.action, at
		}
		if at == width(a) {
			break
		}
		n = n.branches[piece(a, at, 1)]
	}
	return action, bits
}

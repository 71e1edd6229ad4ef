package entity

import (
	"strings"

	"sieve/api"
	"sieve/utf"
)

// node is a place in a trie: what each rune leads on to, and the reference that ends here, if one does.
type node struct {
	kids map[rune]*node
	ends bool
	ref  api.Entity
}

// next: what a rune leads on to; nil, if it leads nowhere.
func (n *node) next(r rune) *node {
	if n == nil {
		return nil
	}
	return n.kids[r]
}

// grow: what a rune leads on to, put in if it led nowhere.
func (n *node) grow(r rune) *node {
	if kid := n.next(r); kid != nil {
		return kid
	}
	if n.kids == nil {
		n.kids = map[rune]*node{}
	}
	kid := &node{}
	n.kids[r] = kid
	return kid
}

// end: a reference ends here; of several the one stays whose name is better.
func (n *node) end(e api.Entity) {
	if !n.ends || better(e.Name, n.ref.Name) {
		n.ends = true
		n.ref = e
	}
}

// better: is a name shorter than another one, or as short and ahead of it in the order of bytes?
func better(name, other string) bool {
	if len(name) != len(other) {
		return len(name) < len(other)
	}
	return name < other
}

// lay puts a text into the trie, at whose end a reference stands; of a text of more than most bytes just these.
func (n *node) lay(text string, most int, e api.Entity) {
	for at, r := range text {
		if at >= most {
			return
		}
		n = n.grow(r)
	}
	n.end(e)
}

// down: where a whole text leads to; nil, if it leads nowhere.
func (n *node) down(text string) *node {
	for _, r := range text {
		if n = n.next(r); n == nil {
			return nil
		}
	}
	return n
}

// longest: the longest beginning of a text at which a reference ends: its bytes, and that place; 0 and nil, if there is none.
func (n *node) longest(text string) (size int, last *node) {
	for at, r := range text {
		if n = n.next(r); n == nil {
			break
		}
		if n.ends {
			size, last = at+utf.Width(r), n
		}
	}
	return size, last
}

// names: the trie of the names that a text may become or begin with, each up to its first most bytes. All others it
// leaves out, since a trie is made anew for every call, and calls come for every & of an input.
func names(text string, most int) *node {
	root := &node{}
	for _, e := range api.Entities() {
		if !strings.HasPrefix(e.Name, text) && !strings.HasPrefix(text, e.Name) {
			continue
		}
		root.lay(e.Name+";", most, e)
		if e.Bare {
			root.lay(e.Name, most, e)
		}
	}
	return root
}

// meanings: the trie of what those references stand for that are asked for.
func meanings(wanted func(e api.Entity) bool) *node {
	root := &node{}
	for _, e := range api.Entities() {
		if wanted(e) {
			text := string(stands(e))
			root.lay(text, len(text), e)
		}
	}
	return root
}

// stands: what a reference stands for.
func stands(e api.Entity) []rune {
	if e.Second == 0 {
		return []rune{e.First}
	}
	return []rune{e.First, e.Second}
}

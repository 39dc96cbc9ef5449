package clash

import (
	"tabellion/api"
	"tabellion/hashed"
	"tabellion/leaf"
	"tabellion/split"
)

// tree is what is known of a tree, or of a part of one: that it is a leaf, or a node over two others; or its root alone.
type tree struct {
	root        api.Hash
	isLeaf      bool
	text        []byte // a leaf's
	left, right *tree  // a node's
}

// hashed answers what was hashed for a tree's root; nil, where that isn't known, or there is no tree.
func (t *tree) hashed() []byte {
	switch {
	case t == nil:
		return nil
	case t.isLeaf:
		return hashed.Leaf(t.text)
	case t.left != nil:
		return hashed.Node(t.left.root, t.right.root)
	}
	return nil
}

// ofRoot answers a tree of which the root alone is known.
func ofRoot(root api.Hash) *tree {
	return &tree{root: root}
}

// ofText answers the tree of one text.
func ofText(w int, text []byte) *tree {
	return &tree{root: leaf.Leaf(w, text), isLeaf: true, text: text}
}

// over answers a node over two trees.
func over(w int, left, right *tree) *tree {
	return &tree{root: leaf.Node(w, left.root, right.root), left: left, right: right}
}

// ofList answers the tree of a list of texts.
func ofList(w int, list [][]byte) *tree {
	switch len(list) {
	case 0:
		return ofRoot(leaf.Empty(w))
	case 1:
		return ofText(w, list[0])
	}
	k := split.At(uint64(len(list)))
	return over(w, ofList(w, list[:k]), ofList(w, list[k:]))
}

// climbed answers the tree that a proof shows over a part of it, which leaf i of n stands in. As far as the proof tells,
// it goes down to that leaf; beside the way it tells the roots alone.
func climbed(w int, part *tree, i, n uint64, proof []api.Hash) *tree {
	if len(proof) == 0 {
		return part
	}
	rest, last := proof[:len(proof)-1], ofRoot(proof[len(proof)-1])
	k := split.At(n)
	if i < k {
		return over(w, climbed(w, part, i, k, rest), last)
	}
	return over(w, last, climbed(w, part, i-k, n-k, rest))
}

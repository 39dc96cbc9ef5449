// Package hashed holds what the layers of trees have in common besides where trees are parted: what is hashed for a leaf,
// and for a node.
package hashed

import (
	"slices"

	"tabellion/api"
)

// What a leaf's text and a node's begin with, so that neither passes for the other.
const (
	leafByte = 0
	nodeByte = 1
)

// Leaf answers what is hashed for a leaf of data.
func Leaf(data []byte) []byte {
	return slices.Concat([]byte{leafByte}, data)
}

// Node answers what is hashed for a node over two hashes.
func Node(l, r api.Hash) []byte {
	return slices.Concat([]byte{nodeByte}, l[:], r[:])
}

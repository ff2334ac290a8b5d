// Package graph has nodes and edges: whether a graph is well made, what hangs together in it, and how far its nodes are from each other.
package graph

import (
	"iter"
	"math"
	"math/bits"

	"teamster/api"
)

// Check tells what is wrong with a graph: ErrLarge of its size, else the error of the first edge that has one.
func Check(g api.Graph) api.Errno {
	if g.N < 0 || g.N > api.MaxNodes || len(g.Edges) > api.MaxEdges {
		return api.ErrLarge
	}
	met := map[pair]int{}
	for _, e := range g.Edges {
		if wrong := checkEdge(g.N, e, met); wrong != api.OK {
			return wrong
		}
		met[pairOf(e)]++
	}
	return api.OK
}

// Degrees tells of each node how many edges it has.
func Degrees(g api.Graph) ([]int, api.Errno) {
	if wrong := Check(g); wrong != api.OK {
		return nil, wrong
	}
	degrees := make([]int, g.N)
	for _, e := range g.Edges {
		degrees[e.A]++
		degrees[e.B]++
	}
	return degrees, api.OK
}

// Parts tells of each node the least node that it is linked with.
func Parts(g api.Graph) ([]int, api.Errno) {
	around, wrong := Neighbours(g)
	if wrong != api.OK {
		return nil, wrong
	}
	parts := make([]int, g.N)
	for node := range parts {
		parts[node] = bits.TrailingZeros32(Linked(around, node, anywhere))
	}
	return parts, api.OK
}

// Dist tells of each node, of each node the least number of edges of a way between them; -1, if there is none.
func Dist(g api.Graph) ([][]int, api.Errno) {
	around, wrong := Neighbours(g)
	if wrong != api.OK {
		return nil, wrong
	}
	dist := make([][]int, g.N)
	for node := range dist {
		dist[node] = distFrom(around, node)
	}
	return dist, api.OK
}

// Neighbours gives of each node the word of those that it has an edge with.
func Neighbours(g api.Graph) ([]uint32, api.Errno) {
	if wrong := Check(g); wrong != api.OK {
		return nil, wrong
	}
	around := make([]uint32, g.N)
	for _, e := range g.Edges {
		around[e.A] |= 1 << e.B
		around[e.B] |= 1 << e.A
	}
	return around, api.OK
}

// Linked gives the word of the nodes that a node is linked with by ways whose other nodes are all in a word, itself among them.
func Linked(around []uint32, from int, within uint32) uint32 {
	part := uint32(0)
	for _, layer := range layers(around, from, within) {
		part |= layer
	}
	return part
}

// IsNode says whether a number is a node of a graph or net of n nodes.
func IsNode(n, node int) bool {
	return node >= 0 && node < n
}

// EachOnce says whether all of a list are nodes of n, at most 32, and none is there twice.
func EachOnce(n int, list []int) bool {
	seen := uint32(0)
	for _, node := range list {
		if !IsNode(n, node) || seen>>node&1 == 1 {
			return false
		}
		seen |= 1 << node
	}
	return true
}

// WordOf gives the word of a list of nodes, all below 32; each may be there several times.
func WordOf(list []int) uint32 {
	word := uint32(0)
	for _, node := range list {
		word |= 1 << node
	}
	return word
}

// anywhere is the word that keeps ways from nothing.
const anywhere = math.MaxUint32

// pair is two nodes, the lesser one first, so that an edge is the same from both of its ends.
type pair struct{ low, high int }

func pairOf(e api.Edge) pair {
	return pair{low: min(e.A, e.B), high: max(e.A, e.B)}
}

// checkEdge tells what is wrong with an edge among n nodes, met being the pairs of the edges ahead of it.
func checkEdge(n int, e api.Edge, met map[pair]int) api.Errno {
	switch {
	case !IsNode(n, e.A) || !IsNode(n, e.B):
		return api.ErrArg
	case e.A == e.B || met[pairOf(e)] > 0:
		return api.ErrForm
	case e.W < -api.MaxWeight || e.W > api.MaxWeight:
		return api.ErrRange
	}
	return api.OK
}

// nodesOf goes through the nodes of a word, rising.
func nodesOf(word uint32) iter.Seq[int] {
	return func(yield func(int) bool) {
		for rest := word; rest != 0; rest &= rest - 1 {
			if !yield(bits.TrailingZeros32(rest)) {
				return
			}
		}
	}
}

// layers goes through the distances from a node, rising, each with the word of the nodes that are so far away by ways whose other nodes are all in a word.
func layers(around []uint32, from int, within uint32) iter.Seq2[int, uint32] {
	return func(yield func(int, uint32) bool) {
		layer := uint32(1) << from
		met := layer
		for far := 0; layer != 0; far++ {
			if !yield(far, layer) {
				return
			}
			layer = beside(around, layer) & within &^ met
			met |= layer
		}
	}
}

// beside gives the word of the nodes that have an edge with a node of the word.
func beside(around []uint32, word uint32) uint32 {
	reached := uint32(0)
	for node := range nodesOf(word) {
		reached |= around[node]
	}
	return reached
}

func distFrom(around []uint32, from int) []int {
	row := make([]int, len(around))
	for node := range row {
		row[node] = -1
	}
	for far, layer := range layers(around, from, anywhere) {
		for node := range nodesOf(layer) {
			row[node] = far
		}
	}
	return row
}

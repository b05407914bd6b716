package proof

import (
	"slices"

	"pantile/peaks"
)

// levels is the nodes of hashes: of each level those whose leaves are all there. (Of a level above 40 there is none: its leaves would be more than a program may be given.)
type levels struct{ nodes [][]string }

// Of is the source of hashes.
func Of(hashes []string) Source {
	var l levels
	for row := slices.Clone(hashes); len(row) > 0; row = above(row) {
		l.nodes = append(l.nodes, row)
	}
	return l
}

// Node is the node of a level at an index, and whether there is one.
func (l levels) Node(level, index int) (string, bool) {
	if !within(level, 0, len(l.nodes)-1) || !within(index, 0, len(l.nodes[level])-1) {
		return "", false
	}
	return l.nodes[level][index], true
}

// above is the nodes of the level above: two of a level make one, and one that is left over none.
func above(row []string) []string {
	out := make([]string, len(row)/2)
	for i := range out {
		out[i] = peaks.NodeHash(row[2*i], row[2*i+1])
	}
	return out
}

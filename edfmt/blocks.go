package edfmt

import "slices"

// blockSize is how many lines a block gets, where one that has grown above twice that is cut.
const blockSize = 512

// blocks is the lines of a text, in blocks of which there is at least one: what a command changes is copied, and that is a block or two, not the whole text, however often it is changed.
type blocks struct {
	list  [][]string
	count int // of all lines
}

// inBlocks is lines, cut into blocks that share the memory of the list.
func inBlocks(l []string) blocks { return blocks{list: cut(l), count: len(l)} }

// cut is a list in blocks, in a single one as long as it is not too long.
func cut(l []string) [][]string {
	if len(l) <= 2*blockSize {
		return [][]string{l}
	}
	return slices.Collect(slices.Chunk(l, blockSize))
}

// find is the first block in which, or at whose end, a place with so many lines ahead of it is, and how many of these are in that block.
func (b *blocks) find(ahead int) (block, within int) {
	for len(b.list[block]) < ahead {
		ahead -= len(b.list[block])
		block++
	}
	return block, ahead
}

// line is the line with a number, from 1 on, where it stands.
func (b *blocks) line(number int) *string {
	block, within := b.find(number)
	return &b.list[block][within-1]
}

// replace takes out the lines from a place on, up to another one, and puts others in there.
func (b *blocks) replace(from, to int, put []string) {
	first, head := b.find(from)
	last, tail := b.find(to)
	changed := joined(b.list[first][:head], put, b.list[last][tail:])
	b.list = joined(b.list[:first], cut(changed), b.list[last+1:])
	b.count += len(put) - (to - from)
}

// all is all lines, in a new list.
func (b *blocks) all() []string { return slices.Concat(b.list...) }

// joined is a new list of the pieces of others, one behind the other.
func joined[T any](front, middle, rest []T) []T {
	made := make([]T, len(front)+len(middle)+len(rest))
	n := copy(made, front)
	n += copy(made[n:], middle)
	copy(made[n:], rest)
	return made
}

package auto

// partition is the numbers from 0 on in blocks, each of which can be cut into what is marked and what is not.
type partition struct {
	row     []int // the numbers, block by block, in each the marked ones first
	at      []int // where each number stands in the row
	blockOf []int
	blocks  []block
	touched []int // the blocks that have marked numbers
}

// block is a part of the row, and how many of it are marked.
type block struct{ from, to, marked int }

// newPartition has all numbers in one block.
func newPartition(size int) *partition {
	p := &partition{row: make([]int, size), at: make([]int, size), blockOf: make([]int, size), blocks: []block{{to: size}}}
	for n := range size {
		p.row[n], p.at[n] = n, n
	}
	return p
}

// size is how many blocks there are.
func (p *partition) size() int { return len(p.blocks) }

// members are the numbers of a block.
func (p *partition) members(number int) []int {
	b := p.blocks[number]
	return p.row[b.from:b.to]
}

// mark marks a number that is not marked.
func (p *partition) mark(n int) {
	b := &p.blocks[p.blockOf[n]]
	if b.marked == 0 {
		p.touched = append(p.touched, p.blockOf[n])
	}
	p.swap(p.at[n], b.from+b.marked)
	b.marked++
}

// swap lets two numbers change places in the row.
func (p *partition) swap(i, k int) {
	p.row[i], p.row[k] = p.row[k], p.row[i]
	p.at[p.row[i]], p.at[p.row[k]] = i, k
}

// cut cuts each block that has marked numbers and others; the lesser part becomes a new block. Then nothing is marked.
func (p *partition) cut() {
	for _, number := range p.touched {
		b := p.blocks[number]
		middle := b.from + b.marked
		ahead, behind := block{from: b.from, to: middle}, block{from: middle, to: b.to}
		switch {
		case middle == b.to:
			p.blocks[number] = ahead
		case b.marked <= b.to-middle:
			p.blocks[number] = behind
			p.add(ahead)
		default:
			p.blocks[number] = ahead
			p.add(behind)
		}
	}
	p.touched = p.touched[:0]
}

// add makes a part of the row a new block.
func (p *partition) add(b block) {
	for _, n := range p.row[b.from:b.to] {
		p.blockOf[n] = len(p.blocks)
	}
	p.blocks = append(p.blocks, b)
}

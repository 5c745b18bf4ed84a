package minimal

// lengths is how long the longest common row is from each pair of places on, row by row: a row a place of x, in it a number a place of y, the ends of both among the places.
type lengths struct {
	width int
	all   []int16 // MaxLines fits, and a table of the greatest texts has a quarter of the bytes
}

// measure is the lengths of two texts, found from their ends on.
func measure(x, y []int) lengths {
	width := len(y) + 1
	l := lengths{width: width, all: make([]int16, (len(x)+1)*width)}
	for i := len(x) - 1; i >= 0; i-- {
		row, below := l.row(i), l.row(i+1)
		for j := len(y) - 1; j >= 0; j-- {
			if x[i] == y[j] {
				row[j] = below[j+1] + 1
			} else {
				row[j] = max(below[j], row[j+1])
			}
		}
	}
	return l
}

// row is the lengths of one place of x.
func (l lengths) row(i int) []int16 {
	return l.all[i*l.width : (i+1)*l.width]
}

// at is the length of one pair of places.
func (l lengths) at(i, j int) int {
	return int(l.all[i*l.width+j])
}

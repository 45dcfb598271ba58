package chain

// places of things in rows, some of which are still to be found.
type places struct {
	mates []int // of each thing those that may stand in a row with it
	rows  []int // of each row the things that are in it so far
	of    []int // of each thing its row
}

// putFrom puts thing i and all later ones into rows, each into the first row that leaves room for the rest, and tells whether there is room.
func (p *places) putFrom(i int) bool {
	if i == len(p.of) {
		return true
	}
	for k, row := range p.rows {
		if row&^p.mates[i] != 0 {
			continue
		}
		p.of[i] = k
		p.rows[k] = row | 1<<i
		if p.putFrom(i + 1) {
			return true
		}
		p.rows[k] = row
		if row == 0 {
			// All rows from here on are as empty: they leave no more room.
			return false
		}
	}
	return false
}

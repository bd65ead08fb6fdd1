package rs

import (
	"slices"

	"drydock/gf"
)

// even tells whether lists are of one length.
func even(lists [][]byte) bool {
	return !slices.ContainsFunc(lists, func(list []byte) bool { return len(list) != len(lists[0]) })
}

// product is, of each row, the sum of lists of one length, each times its factor in the row.
func product(f *gf.Field, rows, lists [][]byte) [][]byte {
	sums := make([][]byte, len(rows))
	for i, row := range rows {
		sums[i] = make([]byte, len(lists[0]))
		for j, factor := range row {
			add(f, sums[i], factor, lists[j])
		}
	}
	return sums
}

// inverse is that of as many rows of as many numbers; api.ErrZero, if there is none.
func inverse(f *gf.Field, m [][]byte) ([][]byte, error) {
	n := len(m)
	// Behind each row stands one that has 1 at its own place: what makes such ones of the rows ahead makes of these the inverse.
	rows := make([][]byte, n)
	for i, row := range m {
		rows[i] = make([]byte, 2*n)
		copy(rows[i], row)
		rows[i][n+i] = 1
	}
	for i := range rows {
		if err := settle(f, rows, i); err != nil {
			return nil, err
		}
	}
	for i, row := range rows {
		rows[i] = row[n:]
	}
	return rows, nil
}

// settle makes the number at a place 1 in the row of that place, and 0 in all others.
func settle(f *gf.Field, rows [][]byte, place int) error {
	// Rows ahead are settled. If none is found, it is 0 in its own row, and Inv tells api.ErrZero: there is no inverse.
	at := slices.IndexFunc(rows[place:], func(row []byte) bool { return row[place] != 0 })
	if at > 0 {
		rows[place], rows[place+at] = rows[place+at], rows[place]
	}
	own := rows[place]
	factor, err := f.Inv(own[place])
	if err != nil {
		return err
	}
	for i, b := range own {
		own[i] = f.Mul(factor, b)
	}
	for i, row := range rows {
		if i != place {
			add(f, row, row[place], own) // what is added once more is taken away
		}
	}
	return nil
}

// add adds a list, times a factor, to a sum of its length.
func add(f *gf.Field, sum []byte, factor byte, list []byte) {
	if factor == 0 { // most are, where parts of data are there
		return
	}
	for i, b := range list {
		sum[i] = f.Add(sum[i], f.Mul(factor, b))
	}
}

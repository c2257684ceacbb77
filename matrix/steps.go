package matrix

import "cairn/api"

// Rank is the greatest number of rows of a of which none is a sum of multiples of the others; a's fault. (P3.5)
func Rank[T Number[T]](a [][]T) (int, api.Errno) {
	if err := fault(a); err != api.OK {
		return 0, err
	}
	return reduce(widened(a, 0), columns(a)), api.OK
}

// Inverse is the matrix that makes the identity with a: a's fault, ErrSizes, if a isn't square, ErrSingular, if there is none. (P3.6)
func Inverse[T Number[T]](a [][]T) ([][]T, api.Errno) {
	if err := squareFault(a); err != api.OK {
		return nil, err
	}
	n := len(a)
	one := unit(a)
	work := widened(a, n)
	for i, row := range work {
		row[n+i] = one
	}
	if reduce(work, n) < n {
		return nil, api.ErrSingular
	}
	inverse := blank[T](n, n)
	for i, row := range work {
		copy(inverse[i], row[n:])
	}
	return inverse, api.OK
}

// Solve is the list whose sums of multiples by a's rows are b: a's fault, ErrSizes, if a isn't square or b hasn't as many numbers, ErrSingular, if a has no inverse. (P3.7)
func Solve[T Number[T]](a [][]T, b []T) ([]T, api.Errno) {
	if err := squareFault(a); err != api.OK {
		return nil, err
	}
	n := len(a)
	if len(b) != n {
		return nil, api.ErrSizes
	}
	work := widened(a, 1)
	for i, row := range work {
		row[n] = b[i]
	}
	if reduce(work, n) < n {
		return nil, api.ErrSingular
	}
	solution := make([]T, n)
	for i, row := range work {
		solution[i] = row[n]
	}
	return solution, api.OK
}

// reduce turns the first cols columns, one after the other, into columns with a single one and zeros elsewhere, as far as rows are left for them, and tells for how many there was a row. Columns behind these go along.
func reduce[T Number[T]](rows [][]T, cols int) int {
	done := 0
nextColumn:
	for col := 0; col < cols && done < len(rows); col++ {
		at := done
		for rows[at][col].IsZero() {
			at++
			if at == len(rows) {
				continue nextColumn
			}
		}
		rows[done], rows[at] = rows[at], rows[done]
		clearColumn(rows, done, col)
		done++
	}
	return done
}

// clearColumn makes one of the number at col in the row number at, and zero of those in the other rows. These change only where that row's numbers aren't zero: in an inverse half of each row is zero when its turn comes.
func clearColumn[T Number[T]](rows [][]T, at, col int) {
	pivot := rows[at]
	inverse, _ := pivot[col].Inverse() // it isn't zero, so there is one
	var places []int
	for j, number := range pivot {
		if !number.IsZero() {
			pivot[j] = number.Times(inverse)
			places = append(places, j)
		}
	}
	for i, row := range rows {
		factor := row[col]
		if i == at || factor.IsZero() {
			continue
		}
		for _, j := range places {
			row[j] = row[j].Plus(factor.Times(pivot[j]))
		}
	}
}

// unit is the field's one, as a number and its inverse make it: nobody hands it in. Of a matrix of zeros alone it is zero, and no inverse comes of that.
func unit[T Number[T]](a [][]T) T {
	for _, row := range a {
		for _, number := range row {
			if inverse, ok := number.Inverse(); ok {
				return number.Times(inverse)
			}
		}
	}
	var none T
	return none
}

// widened is a copy of a's rows, with room for more zeros behind each.
func widened[T any](a [][]T, more int) [][]T {
	work := blank[T](len(a), columns(a)+more)
	for i, row := range a {
		copy(work[i], row)
	}
	return work
}

// squareFault is a's fault, or ErrSizes, unless a has as many columns as rows.
func squareFault[T any](a [][]T) api.Errno {
	if err := fault(a); err != api.OK {
		return err
	}
	if columns(a) != len(a) {
		return api.ErrSizes
	}
	return api.OK
}

package matrix

import (
	"math/bits"
	"slices"

	"dwindle/api"
)

// column is a vector, or a column of a matrix. The elements after those of the dimension are 0.
type column [api.MaxDim]uint64

// square is a square matrix: its columns, so that a matrix times another one is that matrix times each of its columns.
type square [api.MaxDim]column

// linear is a linear function of the values of variables: a vector, and the matrix of each variable. The matrices of all
// other variables are 0.
type linear struct {
	constant column
	matrices map[string]*square
}

// constant returns the linear function with a constant vector, which is 0 if it has no elements.
func constant(vec []uint64) linear {
	var f linear
	copy(f.constant[:], vec)
	return f
}

// variable returns the linear function that is the value of a variable.
func variable(dim int, name string) linear {
	identity := &square{}
	for i := range dim {
		identity[i][i] = 1
	}
	return linear{matrices: map[string]*square{name: identity}}
}

// add adds g to f, and reports whether f stays within the limits. Then g may not be used again.
func (f *linear) add(g linear) bool {
	if !f.constant.add(g.constant) {
		return false
	}
	if len(f.matrices) < len(g.matrices) {
		f.matrices, g.matrices = g.matrices, f.matrices
	}
	for name, m := range g.matrices {
		sum, known := f.matrices[name]
		if !known {
			f.matrices[name] = m
		} else if !sum.add(m) {
			return false
		}
	}
	return true
}

// multiply replaces f by a matrix, given by its rows, times f, and reports whether f stays within the limits.
func (f *linear) multiply(rows [][]uint64) bool {
	if !f.constant.multiply(rows) {
		return false
	}
	for _, m := range f.matrices {
		if !m.multiply(rows) {
			return false
		}
	}
	return true
}

// compare returns 0 if an element of f is smaller than that of g; otherwise 2 if the first element of the vector of f is
// greater than that of g, and 1 if it is equal.
func (f linear) compare(g linear) int {
	if !f.constant.covers(g.constant) {
		return 0
	}
	for name, m := range g.matrices {
		larger, known := f.matrices[name]
		if !known {
			larger = &square{}
		}
		if !larger.covers(m) {
			return 0
		}
	}
	if f.constant[0] > g.constant[0] {
		return 2
	}
	return 1
}

// matrix returns f in its variables, in new memory.
func (f linear) matrix(dim int, names []string) api.Matrix {
	result := api.Matrix{Vec: f.constant.elements(dim)}
	for _, name := range names {
		result.Mats = append(result.Mats, f.matrices[name].rows(dim))
	}
	return result
}

// add adds n to m, and reports whether no element is too large.
func (m *square) add(n *square) bool {
	for j := range m {
		if !m[j].add(n[j]) {
			return false
		}
	}
	return true
}

// multiply replaces m by a matrix, given by its rows, times m, and reports whether no element is too large.
func (m *square) multiply(rows [][]uint64) bool {
	for j := range rows {
		if !m[j].multiply(rows) {
			return false
		}
	}
	return true
}

// covers reports whether no element of m is smaller than that of n.
func (m *square) covers(n *square) bool {
	for j := range m {
		if !m[j].covers(n[j]) {
			return false
		}
	}
	return true
}

// rows returns the rows of m, in new memory.
func (m *square) rows(dim int) [][]uint64 {
	list := make([][]uint64, dim)
	for i := range dim {
		list[i] = make([]uint64, dim)
		for j := range dim {
			list[i][j] = m[j][i]
		}
	}
	return list
}

// add adds y to x, and reports whether no element is too large.
func (x *column) add(y column) bool {
	for i, n := range y {
		x[i] += n
		if x[i] > api.MaxValue {
			return false
		}
	}
	return true
}

// multiply replaces x by a matrix, given by its rows, times x, and reports whether no element is too large. As no number
// is negative, an element is too large if a part of it is.
func (x *column) multiply(rows [][]uint64) bool {
	var result column
	for i, row := range rows {
		for j, n := range row {
			high, low := bits.Mul64(n, x[j])
			if high > 0 || low > api.MaxValue-result[i] {
				return false
			}
			result[i] += low
		}
	}
	*x = result
	return true
}

// covers reports whether no element of x is smaller than that of y.
func (x column) covers(y column) bool {
	for i, n := range y {
		if x[i] < n {
			return false
		}
	}
	return true
}

// elements returns the elements of x, in new memory.
func (x column) elements(dim int) []uint64 {
	return slices.Clone(x[:dim])
}

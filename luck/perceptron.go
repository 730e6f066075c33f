package luck

import "dibber/api"

func checkPoints(points [][]int, signs []int) api.Errno {
	if len(points) > api.MaxDots {
		return api.ErrLimit
	}
	if len(points) == 0 || len(signs) != len(points) {
		return api.ErrArg
	}
	for i, p := range points {
		if len(p) != len(points[0]) || !isPoint(p) {
			return api.ErrArg
		}
		if signs[i] != 1 && signs[i] != -1 {
			return api.ErrArg
		}
	}
	return api.OK
}

func isPoint(p []int) bool {
	if len(p) < 1 || len(p) > api.MaxDim {
		return false
	}
	for _, c := range p {
		if c < -api.MaxCoord || c > api.MaxCoord {
			return false
		}
	}
	return true
}

// Perceptron returns weights that part the points with sign 1 from those with -1, and how many mistakes it made to learn them.
func Perceptron(points [][]int, signs []int, rounds int) ([]int, int, api.Errno) {
	if e := checkPoints(points, signs); e != api.OK {
		return nil, 0, e
	}
	if rounds < 1 || rounds > api.MaxRounds {
		return nil, 0, api.ErrRange
	}
	weights := make([]int, len(points[0]))
	mistakes := 0
	for range rounds {
		more := visit(points, signs, weights)
		if more == 0 {
			return weights, mistakes, api.OK
		}
		mistakes += more
	}
	return nil, 0, api.ErrPlan
}

// visit goes through all points once, changes the weights wherever they are mistaken, and returns how often they were.
func visit(points [][]int, signs, weights []int) int {
	mistakes := 0
	for i, p := range points {
		if signs[i]*product(p, weights) > 0 {
			continue
		}
		mistakes++
		for axis, c := range p {
			weights[axis] += signs[i] * c
		}
	}
	return mistakes
}

func product(a, b []int) int {
	sum := 0
	for i := range a {
		sum += a[i] * b[i]
	}
	return sum
}

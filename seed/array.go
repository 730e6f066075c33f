package seed

import "dibber/api"

// Array returns the number at a row and a column: the word of the row with 01 and as many 0 as the column after it.
func Array(row, column int) (int, api.Errno) {
	if !areNumbers(row, column) {
		return 0, api.ErrRange
	}
	n := shifted(row, lowest+column) + fibonacci(lowest+column)
	if n > api.MaxNumber {
		return 0, api.ErrRange
	}
	return n, api.OK
}

// Where returns the row and column of a number.
func Where(n int) (int, int, api.Errno) {
	if !areNumbers(n) {
		return 0, 0, api.ErrRange
	}
	if n == 0 {
		return 0, 0, api.ErrArg
	}
	last := leastPart(n)
	return shifted(n-fibonacci(last), -last), last - lowest, api.OK
}

package campanile

import (
	"strconv"
	"unicode/utf8"

	"campanile/api"
	"campanile/row"
)

// maxDigits is how many those of 999999 are.
const maxDigits = 6

// digits tells numbers.
func digits(numbers ...int) []string {
	words := make([]string, len(numbers))
	for i, n := range numbers {
		words[i] = strconv.Itoa(n)
	}
	return words
}

func yesNo(is bool) string {
	if is {
		return "yes"
	}
	return "no"
}

// signs tells rows that may be.
func signs(rows ...[]int) []string {
	words := make([]string, len(rows))
	for i, r := range rows {
		words[i], _ = row.Text(r)
	}
	return words
}

func readNumbers(words []string) ([]int, api.Errno) {
	numbers := make([]int, len(words))
	for i, word := range words {
		if !isNumber(word) {
			return nil, api.ErrWord
		}
		numbers[i], _ = strconv.Atoi(word)
	}
	return numbers, api.OK
}

func isNumber(word string) bool {
	for _, digit := range word {
		if digit < '0' || digit > '9' {
			return false
		}
	}
	if word == "" || len(word) > maxDigits {
		return false
	}
	return word == "0" || word[0] != '0'
}

// readSign: a byte that is no valid rune is none either.
func readSign(word string) (rune, api.Errno) {
	if !utf8.ValidString(word) || utf8.RuneCountInString(word) != 1 {
		return 0, api.ErrWord
	}
	sign, _ := utf8.DecodeRuneInString(word)
	return sign, api.OK
}

func readRows(words []string) ([][]int, api.Errno) {
	rows := make([][]int, len(words))
	for i, word := range words {
		r, e := row.Read(word)
		if e != api.OK {
			return nil, e
		}
		rows[i] = r
	}
	return rows, api.OK
}

package tests

import (
	"fmt"
	"strings"
	"testing"
)

// What show returns for the results of functions that fail.
const (
	noText     = `"" false`
	noNumber   = `0 false`
	noList     = `[] false`
	noFraction = `{0 0} false`
)

// show returns all results of a call as one text, in which an empty list and nil are equal.
func show(results ...any) string {
	words := make([]string, len(results))
	for i, result := range results {
		if s, ok := result.(string); ok {
			words[i] = fmt.Sprintf("%q", s)
		} else {
			words[i] = fmt.Sprintf("%v", result)
		}
	}
	return strings.Join(words, " ")
}

// row is what a call has returned, and what it must return.
type row struct {
	call string
	got  string
	want string
}

func expect(t *testing.T, rows []row) {
	t.Helper()
	for _, r := range rows {
		if r.got != r.want {
			t.Errorf("%s: got %s, want %s", r.call, r.got, r.want)
		}
	}
}

// textsUpTo returns all texts of 0 and 1 with at most so many bytes.
func textsUpTo(length int) []string {
	texts := []string{""}
	for i := 0; len(texts[i]) < length; i++ {
		texts = append(texts, texts[i]+"0", texts[i]+"1")
	}
	return texts
}

// repeated returns a list of equal values.
func repeated[T any](value T, count int) []T {
	list := make([]T, count)
	for i := range list {
		list[i] = value
	}
	return list
}

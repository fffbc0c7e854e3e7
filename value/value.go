// Package value is layer 1: numbers and symbols. See shared/doc/01-value.md.
package value

import (
	"cmp"
	"strconv"

	"corollary/api"
)

const (
	hashStart  uint32 = 2166136261
	hashFactor uint32 = 16777619
)

// Name tells whether a text is a name.
func Name(s string) bool {
	if s == "" || len(s) > api.MaxName || !letter(s[0]) {
		return false
	}
	for i := 1; i < len(s); i++ {
		if !letter(s[i]) && !digit(s[i]) && s[i] != '_' {
			return false
		}
	}
	return true
}

func letter(c byte) bool { return 'a' <= c && c <= 'z' }

func digit(c byte) bool { return '0' <= c && c <= '9' }

// Right tells whether a value is valid.
func Right(v api.Value) bool {
	switch v.Kind {
	case api.Int:
		return v.S == "" && inRange(v.N)
	case api.Sym:
		return v.N == 0 && Name(v.S)
	}
	return false
}

func inRange(n int) bool { return -api.MaxNumber <= n && n <= api.MaxNumber }

// Of is a number's value, or ErrOver if it is out of range.
func Of(n int) (api.Value, error) {
	if !inRange(n) {
		return api.Value{}, api.ErrOver
	}
	return api.Value{Kind: api.Int, N: n}, nil
}

// Symbol is a symbol's value, or ErrName if the text isn't a name.
func Symbol(s string) (api.Value, error) {
	if !Name(s) {
		return api.Value{}, api.ErrName
	}
	return api.Value{Kind: api.Sym, S: s}, nil
}

// Compare is -1, 0 or 1, as a comes before b, is equal to it, or comes after it.
// All fields count, so that values that aren't valid have an order too.
func Compare(a, b api.Value) int {
	return cmp.Or(
		cmp.Compare(a.Kind, b.Kind),
		cmp.Compare(a.N, b.N),
		cmp.Compare(a.S, b.S),
	)
}

// Text is a value's text, empty for one that isn't valid.
func Text(v api.Value) string {
	if !Right(v) {
		return ""
	}
	if v.Kind == api.Int {
		return strconv.Itoa(v.N)
	}
	return v.S
}

// Parse is the value of a text, or ErrForm if no value has it.
func Parse(s string) (api.Value, error) {
	if v, err := Symbol(s); err == nil {
		return v, nil
	}
	n, err := strconv.Atoi(s)
	if err != nil {
		return api.Value{}, api.ErrForm
	}
	v, err := Of(n)
	// Atoi also reads +1, 01 and -0, which are no value's text.
	if err != nil || Text(v) != s {
		return api.Value{}, api.ErrForm
	}
	return v, nil
}

// Hash is the hash of a value's text.
func Hash(v api.Value) uint32 { return Mix(hashStart, []byte(Text(v))) }

// Mix goes on from a hash with bytes.
func Mix(h uint32, b []byte) uint32 {
	for _, c := range b {
		h = (h ^ uint32(c)) * hashFactor
	}
	return h
}

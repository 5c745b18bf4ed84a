// Package samples makes what the tests of all layers hold the calls against: every short text, every short list. The layers themselves do not call it.
package samples

// Texts hands over every text of at most length bytes out of those of alphabet, each once.
func Texts(alphabet string, length int, do func(s string)) {
	Lists([]byte(alphabet), length, func(l []byte) { do(string(l)) })
}

// Lists hands over every list of at most length members out of members, each once, and each as new memory.
func Lists[T any](members []T, length int, do func(l []T)) {
	do(nil)
	if length <= 0 {
		return
	}
	for _, m := range members {
		Lists(members, length-1, func(l []T) { do(append([]T{m}, l...)) })
	}
}

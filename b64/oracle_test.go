package b64_test

import "encoding/base64"

// encode is the library's encoder.
func encode(b []byte) string {
	return base64.StdEncoding.EncodeToString(b)
}

// decode tells whether a string is an encoding, by encoding again what a lenient decoder makes of it.
func decode(s string) ([]byte, bool) {
	b, err := base64.StdEncoding.DecodeString(s)
	if err != nil || encode(b) != s {
		return nil, false
	}
	return b, true
}

// isPrefix tries the ways in which the last group of a string could go on.
func isPrefix(s string) bool {
	for _, rest := range []string{"", "A", "=", "AA", "AAA"} {
		if _, is := decode(s + rest); is {
			return true
		}
	}
	return false
}

// firstWrong is the offset that P5.2 requires for a string that is not an encoding.
func firstWrong(s string) int {
	for i := range len(s) {
		if !isPrefix(s[:i+1]) {
			return i
		}
	}
	return len(s)
}

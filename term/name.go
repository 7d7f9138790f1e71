package term

// longest is how many letters a name has at most.
const longest = 8

// keywords returns the words of the language that are no names.
func keywords() map[string]bool {
	return map[string]bool{
		"and": true, "def": true, "else": true, "go": true, "if": true,
		"in": true, "place": true, "stop": true, "then": true, "watch": true,
	}
}

// spelt reports whether a string has the letters of a name; it may be a keyword.
func spelt(s string) bool {
	if len(s) < 1 || len(s) > longest {
		return false
	}
	for i := range len(s) {
		if s[i] < 'a' || s[i] > 'z' {
			return false
		}
	}
	return true
}

// fresh returns the first name that is not taken.
func fresh(taken map[string]bool) string {
	words := keywords()
	s := "a"
	for taken[s] || words[s] {
		s = after(s)
	}
	return s
}

// after returns the string of letters that comes next: by length, then sorted.
func after(s string) string {
	b := []byte(s)
	for i := len(b) - 1; i >= 0; i-- {
		if b[i] < 'z' {
			b[i]++
			return string(b)
		}
		b[i] = 'a'
	}
	return "a" + string(b)
}

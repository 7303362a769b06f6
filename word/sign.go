package word

// signLen is how many bytes the longest sign at the beginning has; 0, if there is none.
func signLen(s string) int {
	for n := min(3, len(s)); n > 0; n-- {
		if isSign(s[:n]) {
			return n
		}
	}
	return 0
}

func isSign(s string) bool {
	switch s {
	case "<=>", "===", "!==", "...", "??=",
		"==", "!=", "<=", ">=", "&&", "||", "??", "++", "--",
		"+=", "-=", "*=", "%=", ".=", "->", "=>", "::",
		"(", ")", "[", "]", "{", "}", ";", ",", ".", "+", "-", "*", "%",
		"<", ">", "!", "=", "?", ":", "&", "|":
		return true
	}
	return false
}

// isKeyword tells whether a text in small letters is a keyword.
func isKeyword(s string) bool {
	switch s {
	case "abstract", "and", "as", "break", "case", "catch", "class", "clone", "const", "continue",
		"default", "do", "echo", "else", "elseif", "empty", "exit", "extends",
		"final", "finally", "fn", "for", "foreach", "function", "global",
		"if", "implements", "include", "include_once", "instanceof", "insteadof", "interface", "isset",
		"namespace", "new", "or", "public", "require", "require_once", "return",
		"static", "switch", "throw", "trait", "try", "unset", "use", "while":
		return true
	}
	return false
}

package token

import "junto/api"

// IsName reports whether s is a name, which may be reserved.
func IsName(s string) bool {
	return isToken(api.ToName, s)
}

// IsReserved reports whether s is a reserved name.
func IsReserved(s string) bool {
	return reserved()[s]
}

// reserved returns the set of reserved names.
func reserved() map[string]bool {
	return map[string]bool{
		"in": true, "from": true, "let": true, "if": true, "else": true, "for": true, "to": true, "out": true,
		"all": true, "def": true, "return": true, "num": true, "bit": true, "word": true,
	}
}

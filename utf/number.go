package utf

// number is a number of four hexadecimal digits, of which the first ones have been read.
type number struct {
	code   rune
	digits int
}

// add reads one more digit; it returns false, and changes nothing, if the byte is none.
func (n *number) add(c byte) bool {
	digit, is := digitOf(c)
	if is {
		n.code = n.code<<4 + digit
		n.digits++
	}
	return is
}

func (n number) complete() bool {
	return n.digits == 4
}

// bounds returns the least and the greatest number that start with the digits read; they are equal if it is complete.
func (n number) bounds() (least, greatest rune) {
	missing := 4 * (4 - n.digits)
	least = n.code << missing
	return least, least + 1<<missing - 1
}

func digitOf(c byte) (digit rune, is bool) {
	switch {
	case '0' <= c && c <= '9':
		return rune(c - '0'), true
	case 'a' <= c && c <= 'f':
		return rune(c-'a') + 10, true
	case 'A' <= c && c <= 'F':
		return rune(c-'A') + 10, true
	}
	return 0, false
}

package escape

import (
	"strings"

	"spool/utf"
)

// piece is an escape as it stands in a text: the code point behind the backslash, the digits or the name that belong to it, and where the text goes on.
type piece struct {
	sign int
	body string
	next int
}

// cut tells the escape whose backslash is right ahead of a byte: the zero piece where the text does not go on as it ought to, whatever its digits or its name are.
func cut(s string, at int) piece {
	c, length := utf.Get(s[at:])
	if c < 0 {
		return piece{}
	}
	p := piece{sign: c, next: at + length}
	switch c {
	case 'x':
		return p.two(s)
	case 'u', 'p', 'P':
		return p.braced(s)
	}
	return p
}

// two tells a piece with the next two bytes as its body.
func (p piece) two(s string) piece {
	if len(s)-p.next < 2 {
		return piece{}
	}
	return piece{sign: p.sign, body: s[p.next : p.next+2], next: p.next + 2}
}

// braced tells a piece with what stands next in braces as its body.
func (p piece) braced(s string) piece {
	left, ok := strings.CutPrefix(s[p.next:], "{")
	if !ok {
		return piece{}
	}
	body, _, ok := strings.Cut(left, "}")
	if !ok {
		return piece{}
	}
	return piece{sign: p.sign, body: body, next: p.next + len("{") + len(body) + len("}")}
}

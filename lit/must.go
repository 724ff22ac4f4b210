package lit

import (
	"winnowfan/api"
	"winnowfan/class"
	"winnowfan/rex"
)

// must is the text that a part needs, and whether that is the one text that it fits.
type must struct {
	text    string
	isWhole bool
}

// ofPart is what the part needs that begins at a node of a pattern that was checked.
func ofPart(r []api.Node, node int) must {
	part := node + 1
	switch r[node].Op {
	case api.Byte:
		return ofByte(r[node].Class)
	case api.Empty:
		return must{isWhole: true}
	case api.Cat:
		second, _ := rex.End(r, part) // the pattern is checked, and the node is there
		return ofBoth(ofPart(r, part), ofPart(r, second))
	case api.Plus:
		return must{text: ofPart(r, part).text} // it is there once at least, but maybe more often
	}
	return must{}
}

func ofByte(c api.Class) must {
	for b := range 256 {
		one := string([]byte{byte(b)}) // of a number alone, string would make a letter of up to two bytes
		if c == class.Of(one) {
			return must{one, true}
		}
	}
	return must{}
}

// ofBoth is what two parts need of which one stands behind the other.
func ofBoth(first, second must) must {
	if first.isWhole && second.isWhole {
		return must{first.text + second.text, true}
	}
	if len(second.text) > len(first.text) {
		return must{text: second.text}
	}
	return must{text: first.text}
}

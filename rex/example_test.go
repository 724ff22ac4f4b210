package rex_test

import (
	"fmt"

	"winnowfan/api"
	"winnowfan/class"
	"winnowfan/rex"
)

// The example of README.md.
func Example() {
	r := []api.Node{{Op: api.Cat}, {Op: api.Begin}, {Op: api.Star}, {Op: api.Byte, Class: class.Of("ab")}}
	fmt.Println(rex.Check(r), rex.Check(r[:3]))
	fmt.Println(rex.End(r, 2))
	fmt.Println(rex.Empty(r))
	turned, err := rex.Turn(r)
	for _, node := range turned {
		fmt.Println(node.Op, class.Many(node.Class))
	}
	fmt.Println(err)
	// Output:
	// <nil> ErrShape
	// 4 <nil>
	// true <nil>
	// 3 0
	// 5 0
	// 1 2
	// 9 0
	// <nil>
}

package prog_test

import (
	"fmt"

	"winnowfan/api"
	"winnowfan/prog"
	"winnowfan/syn"
)

// The example of README.md.
func Example() {
	r, _, _ := syn.Parse("^(a|b)+")
	p, err := prog.Of(r)
	fmt.Println(len(p), err, prog.Check(p))
	text, err := prog.Text(p)
	fmt.Print(text)
	fmt.Println(err)
	fmt.Println(prog.Check(p[:3]), prog.Check(nil))
	fmt.Println(prog.Check([]api.Step{{Op: api.Done, X: 1}}))
	// Output:
	// 7 <nil> <nil>
	// first 1
	// fork 2 4
	// take a 3
	// fork 5 5
	// take b 5
	// fork 1 6
	// done
	// <nil>
	// ErrRange ErrNone
	// ErrShape
}

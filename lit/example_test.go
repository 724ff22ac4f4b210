package lit_test

import (
	"fmt"

	"winnowfan/api"
	"winnowfan/lit"
	"winnowfan/syn"
)

// The examples of README.md.
func Example() {
	r, _, _ := syn.Parse("hello")
	fmt.Println(lit.Whole(r))
	fmt.Println(lit.Needed(r))
	r, _, _ = syn.Parse("(ab)+[xy]*end")
	_, is, err := lit.Whole(r)
	fmt.Println(is, err)
	fmt.Println(lit.Needed(r))
	_, err = lit.Needed([]api.Node{{Op: api.Star}})
	fmt.Println(err)
	// Output:
	// hello true <nil>
	// hello <nil>
	// false <nil>
	// end <nil>
	// ErrShape
}

func Example_nested() {
	r, _, _ := syn.Parse("end$")
	fmt.Println(lit.Needed(r))
	r, _, _ = syn.Parse("(end)$")
	fmt.Println(lit.Needed(r))
	// Output:
	// e <nil>
	// end <nil>
}

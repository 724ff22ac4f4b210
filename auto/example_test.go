package auto_test

import (
	"fmt"

	"winnowfan/auto"
	"winnowfan/prog"
	"winnowfan/syn"
)

// The example of README.md.
func Example() {
	r, _, _ := syn.Parse("(a|ab)*b?")
	p, _ := prog.Of(r)
	a, err := auto.New(p)
	fmt.Println(err)
	fmt.Println(a.States())
	fmt.Println(a.Longest("aabc", 0))
	fmt.Println(a.Longest("aabc", 3))
	fmt.Println(a.States())
	fmt.Println(a.Longest("aabc", 5))
	_, err = auto.New(p[:1])
	fmt.Println(err)
	// Output:
	// <nil>
	// 0
	// 3 <nil>
	// 3 <nil>
	// 4
	// 0 ErrRange
	// ErrRange
}

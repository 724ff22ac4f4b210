package mean_test

import (
	"fmt"

	"winnowfan/mean"
	"winnowfan/syn"
)

// The example of README.md.
func Example() {
	r, _, _ := syn.Parse("(a|ab)*b?")
	fmt.Println(mean.Ends(r, "aabc", 0))
	fmt.Println(mean.Ends(r, "aabc", 3))
	fmt.Println(mean.Ends(r, "aabc", 5))
	fmt.Println(mean.Yes(r, "aabab"))
	fmt.Println(mean.Yes(r, "aabc"))
	// Output:
	// [0 1 2 3] <nil>
	// [3] <nil>
	// [] ErrRange
	// true <nil>
	// false <nil>
}

package sim_test

import (
	"fmt"

	"winnowfan/prog"
	"winnowfan/sim"
	"winnowfan/syn"
)

// The example of README.md.
func Example() {
	r, _, _ := syn.Parse("(a|ab)*b?")
	p, _ := prog.Of(r)
	fmt.Println(sim.Ends(p, "aabc", 0))
	fmt.Println(sim.Longest(p, "aabc", 0))
	fmt.Println(sim.Longest(p[:1], "aabc", 0))
	fmt.Println(sim.Longest(p, "aabc", 5))
	r, _, _ = syn.Parse("b+")
	p, _ = prog.Of(r)
	fmt.Println(sim.Longest(p, "aabc", 0))
	// Output:
	// [0 1 2 3] <nil>
	// 3 <nil>
	// 0 ErrRange
	// 0 ErrRange
	// -1 <nil>
}

package find_test

import (
	"fmt"

	"winnowfan/api"
	"winnowfan/find"
	"winnowfan/syn"
)

// The examples of README.md.
func Example() {
	r, _, _ := syn.Parse("ab|a*")
	fmt.Println(find.Find(r, "baab", 0))
	fmt.Println(find.Find(r, "baab", 1))
	fmt.Println(find.Find(r, "baab", 2))
	fmt.Println(find.All(r, "baab"))
	_, err := find.Find(r, "baab", 5)
	fmt.Println(err)
	// Output:
	// {0 0} <nil>
	// {1 3} <nil>
	// {2 4} <nil>
	// [{0 0} {1 3} {3 3} {4 4}] <nil>
	// ErrRange
}

func Example_none() {
	r, _, _ := syn.Parse("^b")
	fmt.Println(find.All(r, "bb"))
	_, err := find.Find(r, "bb", 1)
	fmt.Println(err)
	spans, err := find.All(r, "a")
	fmt.Println(len(spans), err)
	_, err = find.All([]api.Node{{Op: api.Star}}, "a")
	fmt.Println(err)
	// Output:
	// [{0 1}] <nil>
	// ErrNone
	// 0 <nil>
	// ErrShape
}

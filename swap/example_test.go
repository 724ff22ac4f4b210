package swap_test

import (
	"fmt"
	"strings"

	"winnowfan/api"
	"winnowfan/swap"
	"winnowfan/syn"
)

// The examples of README.md.
func Example() {
	r, _, _ := syn.Parse(" *, *")
	fmt.Println(swap.Replace(r, "a , b,c", "; "))
	fmt.Printf("%q\n", pieces(swap.Split(r, "a , b,c")))
	fmt.Printf("%q\n", pieces(swap.Split(r, ",a,,b")))
	fmt.Printf("%q\n", pieces(swap.Split(r, "a")))
	_, err := swap.Replace(r, "a,b", strings.Repeat("-", api.MaxText))
	fmt.Println(err)
	_, err = swap.Split([]api.Node{{Op: api.Star}}, "a")
	fmt.Println(err)
	// Output:
	// a; b; c <nil>
	// ["a" "b" "c"]
	// ["" "a" "" "b"]
	// ["a"]
	// ErrFull
	// ErrShape
}

func Example_empty() {
	r, _, _ := syn.Parse("b*")
	fmt.Println(swap.Replace(r, "abc", "-"))
	fmt.Printf("%q\n", pieces(swap.Split(r, "abc")))
	// Output:
	// -a--c- <nil>
	// ["" "a" "" "c" ""]
}

func pieces(of []string, err error) []string {
	if err != nil {
		panic(err)
	}
	return of
}

package feed_test

import (
	"fmt"
	"strings"

	"winnowfan/api"
	"winnowfan/feed"
	"winnowfan/syn"
)

// The example of README.md.
func Example() {
	r, _, _ := syn.Parse("(ab)+$")
	f, err := feed.New(r)
	fmt.Println(err)
	fmt.Println(f.Put("ab"))
	fmt.Println(f.Yes())
	fmt.Println(f.Put("a"), f.Len())
	fmt.Println(f.Yes(), f.Dead())
	fmt.Println(f.Put("a"), f.Dead())
	fmt.Println(f.Put(strings.Repeat("a", api.MaxText)), f.Len())
	f.Again()
	fmt.Println(f.Len(), f.Dead())
	_, err = feed.New([]api.Node{{Op: api.Star}})
	fmt.Println(err)
	// Output:
	// <nil>
	// <nil>
	// true
	// <nil> 3
	// false false
	// <nil> true
	// ErrFull 4
	// 0 false
	// ErrShape
}

package words_test

import (
	"fmt"

	"winnowfan/words"
)

// The examples of README.md.
func Example() {
	fmt.Println(words.All([]string{"she", "he", "hers"}, "ushers"))
	hits, err := words.All([]string{"he"}, "ushas")
	fmt.Println(len(hits), err)
	// Output:
	// [{0 {1 4}} {1 {2 4}} {2 {2 6}}] <nil>
	// 0 <nil>
}

func ExampleCheck() {
	fmt.Println(words.Check([]string{"she", "he"}))
	fmt.Println(words.Check([]string{"she", ""}))
	fmt.Println(words.Check([]string{"she", "she"}))
	// Output:
	// <nil>
	// ErrSyntax
	// ErrClash
}

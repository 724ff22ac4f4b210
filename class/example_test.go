package class_test

import (
	"fmt"

	"winnowfan/class"
)

// The example of README.md.
func Example() {
	vowels := class.Of("aeiou")
	small, err := class.Range('a', 'z')
	others := class.Both(small, class.Not(vowels))
	fmt.Println(err, class.Has(others, 'b'), class.Many(others))
	fmt.Println(class.Text(others))
	fmt.Println(class.Text(class.Either(vowels, class.Of("-"))))
	// Output:
	// <nil> true 21
	// [b-df-hj-np-tv-z]
	// [\-aeiou]
}

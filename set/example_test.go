package set_test

import (
	"fmt"

	"winnowfan/set"
)

// The examples of README.md.
func Example() {
	s := set.New()
	fmt.Println(s.Add("ab*"))
	fmt.Println(s.Add("a)"))
	fmt.Println(s.Add("(b)|b"))
	fmt.Println(s.List())
	fmt.Println(s.Scan("babb"))
	fmt.Println(s.Remove(1))
	fmt.Println(s.Remove(1))
	fmt.Println(s.Add("ab*"))
	// Output:
	// 1 0 <nil>
	// 0 1 ErrSyntax
	// 2 0 <nil>
	// [{1 ab*} {2 (b)|b}]
	// [{1 {1 4}} {2 {0 1}} {2 {2 3}} {2 {3 4}}] <nil>
	// <nil>
	// ErrNone
	// 3 0 <nil>
}

func ExampleSet_Filter() {
	s := set.New()
	s.Add("ab*")
	s.Add("(end)+")
	s.Add("[xy]")
	hits, err := s.Scan("bend")
	fmt.Println(hits, err, s.Tried())
	s.Filter(true)
	hits, err = s.Scan("bend")
	fmt.Println(hits, err, s.Tried())
	// Output:
	// [{2 {1 4}}] <nil> 3
	// [{2 {1 4}}] <nil> 2
}

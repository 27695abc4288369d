package logic

import "arbor/api"

// stop is what the reader panics with when it gives up.
type stop struct{ fault api.Fault }

func giveUp(code, at int) { panic(stop{api.Fault{Code: code, At: at}}) }

// faultOf tells why the reader gave up. Any other panic goes on: a mistake in the program is not to be told as a fault of a text.
func faultOf(caught any) api.Fault {
	switch v := caught.(type) {
	case stop:
		return v.fault
	default:
		panic(v)
	}
}

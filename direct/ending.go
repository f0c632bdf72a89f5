package direct

import "seedbed/api"

// ending is how a statement, or a list of statements, ends.
type ending interface{ isEnding() }

type (
	plain     struct{}
	broken    struct{}
	continued struct{}
	returned  struct{ v api.Value }
	raised    struct{ fault api.Fault }
)

func (plain) isEnding()     {}
func (broken) isEnding()    {}
func (continued) isEnding() {}
func (returned) isEnding()  {}
func (raised) isEnding()    {}

// thrown is a raise of an error.
func thrown(text string) ending {
	return raised{api.Fault{Kind: api.FThrow, Text: text}}
}

// after returns an ending, or a raise of the fault of a reply, if that has one.
func after(r api.Answer, end ending) ending {
	if r.Fault != noFault {
		return raised{r.Fault}
	}
	return end
}

// faultOf returns the fault of a raise.
func faultOf(end ending) api.Fault {
	if r, ok := end.(raised); ok {
		return r.fault
	}
	return noFault
}

package desk

import (
	"bytes"

	"bollard/adjust"
	"bollard/api"
	"bollard/crash"
	"bollard/scan"
	"bollard/sched"
)

// command is what a line's first word asks for.
type command struct {
	wants  []want // the further words
	begins bool   // it may come ahead of the first machine
	do     func(d *desk, args []arg) (string, api.Errno)
}

// commands is all that there are, by their names.
func commands() map[string]command {
	return map[string]command{
		"make":   {wants: []want{number, number, number}, begins: true, do: (*desk).begin},
		"mkdir":  ofPath(api.CallMkdir, tellOK),
		"unlink": ofPath(api.CallUnlink, tellOK),
		"rmdir":  ofPath(api.CallRmdir, tellOK),
		"create": ofPath(api.CallCreate, tellDescriptor),
		"open":   ofPath(api.CallOpen, tellDescriptor),
		"stat":   ofPath(api.CallStat, tellThing),
		"list":   ofPath(api.CallList, tellNames),
		"rename": ofPaths(api.CallRename),
		"link":   ofPaths(api.CallLink),
		"close":  ofFile(api.CallClose),
		"fsync":  ofFile(api.CallFsync),
		"sync":   calls(syncCall, tellOK),
		"read":   calls(readCall, tellBytes, number, number, number),
		"write":  calls(writeCall, tellWritten, number, number, word),
		"fill":   calls(fillCall, tellWritten, number, number, times, word),
		"cut":    calls(cutCall, tellOK, number, number),
		"flush":  ofNumber(api.StepWrite),
		"done":   ofNumber(api.StepComplete),
		"fail":   ofNumber(api.StepFail),
		"snap":   ofNumber(api.StepSnap),
		"check":  plain(api.StepCheck),
		"adjust": plain(api.StepAdjust),
		"drop":   plain(api.StepDrop),
		"forge":  steps(forgeStep, tellOK, number, number, number, number),
		"crash":  steps(crashStep, tellOK, mask),
		"asked":  {do: (*desk).asked},
		"accept": {do: (*desk).accept},
		"leaks":  {do: (*desk).leaks},
		"worst":  {wants: []want{number}, do: (*desk).worst},
	}
}

// steps is a command that makes a step.
func steps(step func([]arg) api.Step, tell func(api.Answer) string, wants ...want) command {
	return command{wants: wants, do: func(d *desk, args []arg) (string, api.Errno) {
		answer, why := d.machine.Do(step(args))
		if why != api.OK {
			return "", why
		}
		return tell(answer), api.OK
	}}
}

// calls is a command that makes a user's call.
func calls(call func([]arg) api.Call, tell func(api.Answer) string, wants ...want) command {
	return steps(func(args []arg) api.Step {
		return api.Step{Kind: api.StepCall, Call: call(args)}
	}, tell, wants...)
}

func ofPath(kind int, tell func(api.Answer) string) command {
	return calls(func(args []arg) api.Call {
		return api.Call{Kind: kind, Path: args[0].text}
	}, tell, word)
}

func ofPaths(kind int) command {
	return calls(func(args []arg) api.Call {
		return api.Call{Kind: kind, Path: args[0].text, Other: args[1].text}
	}, tellOK, word, word)
}

func ofFile(kind int) command {
	return calls(func(args []arg) api.Call {
		return api.Call{Kind: kind, FD: args[0].number}
	}, tellOK, number)
}

func ofNumber(kind int) command {
	return steps(func(args []arg) api.Step {
		return api.Step{Kind: kind, N: args[0].number}
	}, tellOK, number)
}

func plain(kind int) command {
	return steps(func([]arg) api.Step { return api.Step{Kind: kind} }, tellOK)
}

func syncCall([]arg) api.Call {
	return api.Call{Kind: api.CallSync}
}

func readCall(args []arg) api.Call {
	return api.Call{Kind: api.CallRead, FD: args[0].number, Off: args[1].number, N: args[2].number}
}

func writeCall(args []arg) api.Call {
	return api.Call{Kind: api.CallWrite, FD: args[0].number, Off: args[1].number, Bytes: []byte(args[2].text)}
}

func fillCall(args []arg) api.Call {
	first := []byte(args[3].text[:1])
	return api.Call{Kind: api.CallWrite, FD: args[0].number, Off: args[1].number, Bytes: bytes.Repeat(first, args[2].number)}
}

func cutCall(args []arg) api.Call {
	return api.Call{Kind: api.CallTruncate, FD: args[0].number, N: args[1].number}
}

func forgeStep(args []arg) api.Step {
	r := api.Request{Kind: args[0].number, N: args[1].number, To: args[2].number, Gen: args[3].number}
	return api.Step{Kind: api.StepAdjust, Request: r}
}

func crashStep(args []arg) api.Step {
	return api.Step{Kind: api.StepCrash, Mask: uint64(args[0].number)}
}

// begin has another machine stand on the desk, if there can be such a one.
func (d *desk) begin(args []arg) (string, api.Errno) {
	g := api.Geom{Groups: args[0].number, Blocks: args[1].number, Inodes: args[2].number}
	m, why := sched.New(g)
	if why != api.OK {
		return "", why
	}
	d.machine = m
	return "made", api.OK
}

func (d *desk) asked([]arg) (string, api.Errno) {
	return tellAsked(d.machine.Asked()), api.OK
}

func (d *desk) accept([]arg) (string, api.Errno) {
	return "accepted", scan.Accept(d.machine.Disk().Image())
}

func (d *desk) leaks([]arg) (string, api.Errno) {
	image, why := adjust.Image(d.machine.FS().Volume())
	if why != api.OK {
		return "", why
	}
	found, why := scan.Leaks(image)
	return told("leaks", len(found.Blocks), len(found.Inodes), len(found.Links)), why
}

// worst tells its error as an answer: with the place, which an error alone has
// not.
func (d *desk) worst(args []arg) (string, api.Errno) {
	at, why := crash.Worst(d.machine.Disk(), args[0].number)
	if why != api.OK {
		return told("bad", at, int(why)), api.OK
	}
	return "fine", api.OK
}

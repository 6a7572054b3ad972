package trace

import (
	"strconv"
	"strings"

	"detent/api"
)

// Name tells a task's name (of no task nothing).
func Name(r api.Run, task int) string {
	// A run of more tasks may not be: makers of makers could go too deep.
	if len(r.Tasks) > api.MaxTasks {
		return ""
	}
	var text strings.Builder
	var goOn func(task int)
	goOn = func(task int) {
		if task < 1 || task > len(r.Tasks) {
			return
		}
		switch x := r.Tasks[task-1]; x.Kind {
		case api.TaskMain:
			text.WriteString("m")
		case api.TaskLife:
			text.WriteString("c" + strconv.Itoa(x.Of) + "." + strconv.Itoa(x.Nth))
		case api.TaskEvent:
			text.WriteString("e" + strconv.Itoa(x.Of) + "." + strconv.Itoa(x.Nth))
		default:
			// A maker is ahead of what it makes: of one that is not, the run may not be, and its name might never end.
			if x.By < task {
				goOn(x.By)
			}
			text.WriteString("/" + strconv.Itoa(x.Nth))
		}
	}
	goOn(task)
	return text.String()
}

package opcode

import (
	"strconv"
	"strings"

	"porter/api"
	"porter/name"
	"porter/octet"
	"porter/quote"
)

const (
	maxText = 131072
	hexMark = "x" // before the digits of a text, which may be none
)

// form tells which fields the line of a kind of operation has; they come in this order.
type form struct {
	command                  string
	kind                     int
	tenant, text, num, words bool
}

// forms are the lines that there are.
var forms = [9]form{
	{command: "tenant", kind: api.OTenant, tenant: true, text: true},
	{command: "rotate", kind: api.ORotate, tenant: true, text: true},
	{command: "retire", kind: api.ORetire, tenant: true, num: true},
	{command: "revoke", kind: api.ORevoke, tenant: true},
	{command: "mint", kind: api.OMint, tenant: true, words: true},
	{command: "ask", kind: api.OAsk, text: true},
	{command: "tick", kind: api.OTick, num: true},
	{command: "compact", kind: api.OCompact},
	{command: "power", kind: api.OPower},
}

func formOf(kind int) (form, bool) {
	for _, f := range forms {
		if f.kind == kind {
			return f, true
		}
	}
	return form{}, false
}

// fits reports whether the fields of an operation are as its line can have them.
func fits(op api.Op, f form) bool {
	return tenantFits(op.Tenant, f.tenant) && numFits(op.Num, f.num) && textFits(op.Text, f.text) && wordsFit(op.Words, f.words)
}

func tenantFits(tenant string, used bool) bool {
	if !used {
		return tenant == ""
	}
	return name.Word(tenant)
}

func numFits(n int, used bool) bool {
	if !used {
		return n == 0
	}
	return n >= 0 && n <= api.MaxNum
}

func textFits(text string, used bool) bool {
	if !used {
		return text == ""
	}
	return len(text) <= maxText
}

func wordsFit(l []string, used bool) bool {
	if !used {
		return len(l) == 0
	}
	for _, word := range l {
		if len(word) > api.MaxText {
			return false
		}
	}
	return len(l) <= api.MaxLinks
}

// written returns the line of an operation of a form.
func written(op api.Op, f form) string {
	parts := []string{f.command}
	if f.tenant {
		parts = append(parts, op.Tenant)
	}
	if f.text {
		parts = append(parts, hexMark+octet.Hex(op.Text))
	}
	if f.num {
		parts = append(parts, strconv.Itoa(op.Num))
	}
	if f.words {
		for _, word := range op.Words {
			parts = append(parts, quote.Text(word))
		}
	}
	return strings.Join(parts, " ")
}

// read returns the operation of a line; what cannot be read is left out.
func read(s string) api.Op {
	parts := split(s)
	next := func() string {
		if len(parts) == 0 {
			return ""
		}
		part := parts[0]
		parts = parts[1:]
		return part
	}
	command := next()
	var op api.Op
	for _, f := range forms {
		if f.command != command {
			continue
		}
		op.Kind = f.kind
		if f.tenant {
			op.Tenant = next()
		}
		if f.text {
			op.Text, _ = octet.Unhex(strings.TrimPrefix(next(), hexMark))
		}
		if f.num {
			op.Num, _ = strconv.Atoi(next())
		}
		for f.words && len(parts) > 0 {
			word, _, _ := quote.Read(next(), 0)
			op.Words = append(op.Words, word)
		}
	}
	return op
}

// split cuts a line at its spaces, but for those in quotes.
func split(s string) []string {
	var parts []string
	from := 0
	quoted, escaped := false, false
	for i, c := range s {
		switch {
		case escaped:
			escaped = false
		case c == '\\' && quoted:
			escaped = true
		case c == '"':
			quoted = !quoted
		case c == ' ' && !quoted:
			parts = append(parts, s[from:i])
			from = i + 1
		}
	}
	return append(parts, s[from:])
}

package plan

// Words of steps.
const (
	add    = "add"
	drop   = "drop"
	rename = "rename"
	redact = "redact"
	keep   = "keep"
)

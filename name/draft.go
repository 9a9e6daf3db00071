package name

import "guidepost/api"

// draft is a name in the making, label by label. However many labels come, it keeps little more than a name may have:
// of what is too long only that it is so must be known.
type draft struct {
	wire []byte
	bad  bool
}

func newDraft() *draft {
	return &draft{wire: make([]byte, 0, api.MaxName)}
}

func (d *draft) add(label string) {
	if !rightLabel(label) {
		d.bad = true
	}
	if d.bad || len(d.wire) >= api.MaxName {
		return
	}
	d.wire = append(d.wire, byte(len(label)))
	d.wire = append(d.wire, label...)
}

// name tells of a bad label first, wherever it stood.
func (d *draft) name() (string, api.Errno) {
	if d.bad {
		return "", api.ErrName
	}
	return limited(string(d.wire) + root)
}

// limited is n, if it is no longer than a name may be.
func limited(n string) (string, api.Errno) {
	if len(n) > api.MaxName {
		return "", api.ErrLong
	}
	return n, api.OK
}

package data

import (
	"strconv"
	"strings"

	"guidepost/api"
)

// maxType is the greatest type: types are told in two bytes.
const maxType = 1<<16 - 1

// numbered stands ahead of the number of a type without a text of its own.
const numbered = "TYPE"

// typeTexts are the types with texts of their own.
var typeTexts = [...]struct {
	kind int
	text string
}{
	{api.TypeA, "A"},
	{api.TypeNS, "NS"},
	{api.TypeCNAME, "CNAME"},
	{api.TypeSOA, "SOA"},
	{api.TypeMX, "MX"},
	{api.TypeTXT, "TXT"},
	{api.TypeAAAA, "AAAA"},
	{api.TypeDNAME, "DNAME"},
	{api.TypeOPT, "OPT"},
	{api.TypeDS, "DS"},
	{api.TypeRRSIG, "RRSIG"},
	{api.TypeNSEC, "NSEC"},
	{api.TypeDNSKEY, "DNSKEY"},
	{api.TypeNSEC3, "NSEC3"},
	{api.TypeANY, "ANY"},
}

// TypeText is how a type is told.
func TypeText(kind int) (string, api.Errno) {
	if !isType(kind) {
		return "", api.ErrArg
	}
	for _, row := range typeTexts {
		if row.kind == kind {
			return row.text, api.OK
		}
	}
	return numbered + strconv.Itoa(kind), api.OK
}

// TypeOf is the type that a text tells.
func TypeOf(text string) (int, api.Errno) {
	for _, row := range typeTexts {
		if row.text == text {
			return row.kind, api.OK
		}
	}
	return numberedType(text)
}

// numberedType is TypeOf where the type has no text of its own. Telling it again finds a type that has one, and noughts and
// signs ahead of the number.
func numberedType(text string) (int, api.Errno) {
	digits, ok := strings.CutPrefix(text, numbered)
	if !ok {
		return 0, api.ErrText
	}
	kind, err := strconv.Atoi(digits)
	if err != nil {
		return 0, api.ErrText
	}
	if again, _ := TypeText(kind); again != text {
		return 0, api.ErrText
	}
	return kind, api.OK
}

func isType(kind int) bool {
	return kind >= 0 && kind <= maxType
}

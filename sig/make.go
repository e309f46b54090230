package sig

import (
	"slices"
	"strings"

	"stowage/api"
	"stowage/chars"
	"stowage/enc"
	"stowage/http"
	"stowage/when"
)

// Header signs a request in a header.
func Header(r api.Request, k api.Key, t int, payload string) (api.Request, api.Errno) {
	switch {
	case !maySign(k, t):
		return api.Request{}, api.ErrInvalidArgument
	case slices.ContainsFunc(r.Headers, isOfHeader):
		return api.Request{}, api.ErrInvalidRequest
	}
	made := copyOf(r)
	made.Headers = append(made.Headers, api.Header{Name: dateHeader, Value: when.Basic(t)}, api.Header{Name: payloadHeader, Value: payload})
	names := namesOf(made.Headers)
	signature, e := signatureOf(made, k, t, names, payload, false)
	if e != api.OK {
		return api.Request{}, e
	}
	parts := []string{
		"Credential=" + string(credentialOf(k.ID, when.Day(t))),
		"SignedHeaders=" + strings.Join(names, ";"),
		"Signature=" + signature,
	}
	made.Headers = append(made.Headers, api.Header{Name: authorization, Value: algorithm + " " + strings.Join(parts, ",")})
	return made, api.OK
}

// Presign signs a request in its query, for as many seconds.
func Presign(r api.Request, k api.Key, t, expires int) (api.Request, api.Errno) {
	_, pairs := http.Query(r.Target)
	_, signed := http.Get(r.Headers, authorization)
	switch {
	case !maySign(k, t) || !isExpires(expires):
		return api.Request{}, api.ErrInvalidArgument
	case signed || slices.ContainsFunc(pairs, isOfQuery):
		return api.Request{}, api.ErrInvalidRequest
	}
	made := copyOf(r)
	names := namesOf(made.Headers)
	values := [...]string{algorithm, string(credentialOf(k.ID, when.Day(t))), when.Basic(t), enc.Text(expires), strings.Join(names, ";")}
	for i, value := range values {
		made.Target = withPair(made.Target, pairNames[i], value)
	}
	signature, e := signatureOf(made, k, t, names, unsigned, true)
	if e != api.OK {
		return api.Request{}, e
	}
	made.Target = withPair(made.Target, pairNames[atSignature], signature)
	return made, api.OK
}

// maySign tells whether k has a name that a credential may begin with, and t is a time.
func maySign(k api.Key, t int) bool {
	return 0 <= t && t <= api.Last && isName(k.ID)
}

// isOfHeader tells whether h is one of the headers by which Header signs.
func isOfHeader(h api.Header) bool {
	return h.Name == dateHeader || h.Name == payloadHeader || h.Name == authorization
}

// isOfQuery tells whether a pair is named as one of those by which Presign signs.
func isOfQuery(pair api.Header) bool {
	for _, name := range pairNames {
		if pair.Name == name {
			return true
		}
	}
	return false
}

// copyOf is the same request in new memory.
func copyOf(r api.Request) api.Request {
	r.Headers = slices.Clone(r.Headers)
	r.Body = slices.Clone(r.Body)
	return r
}

// namesOf tells the names of headers, rising, each of them once.
func namesOf(l []api.Header) []string {
	var names []string
	for _, h := range l {
		names = append(names, h.Name)
	}
	slices.Sort(names)
	return slices.Compact(names)
}

func withPair(target, name, value string) string {
	between := "?"
	if strings.Contains(target, "?") {
		between = "&"
	}
	return target + between + name + "=" + chars.Escape(value, false)
}

func signatureOf(r api.Request, k api.Key, t int, names []string, payload string, presigned bool) (string, api.Errno) {
	canonical, e := Canonical(r, names, payload, presigned)
	if e != api.OK {
		return "", e
	}
	day := when.Day(t)
	return Sign(SigningKey(k.Secret, day, region, service), when.Basic(t), scopeOf(day), canonical), api.OK
}

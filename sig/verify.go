package sig

import (
	"slices"
	"strings"

	"stowage/api"
	"stowage/chars"
	"stowage/enc"
	"stowage/hash"
	"stowage/http"
	"stowage/when"
)

const (
	maxSkew     = 900
	headerParts = 3
	signedStart = "x-amz-"
)

// Verify tells who signed the request, or the first point in which it is not signed as it should be.
func Verify(r api.Request, keys []api.Key, now int) (Who, api.Errno) {
	_, pairs := http.Query(r.Target)
	v := &verifier{r: r, pairs: pairs, keys: keys, now: now}
	points := []func() api.Errno{
		v.findWay, v.readParts, v.readDate, v.readCredential, v.findKey,
		v.checkNames, v.checkTime, v.readPayload, v.checkSignature, v.checkBody,
	}
	for _, point := range points {
		if e := point(); e != api.OK {
			return Who{}, e
		}
	}
	return v.who, api.OK
}

// verifier goes through a request point by point. Each point's method tells what is wrong there, and leaves what the later ones ask for.
type verifier struct {
	r     api.Request
	pairs []api.Header // of its query
	keys  []api.Key
	now   int

	presigned  bool
	credential credential
	names      []string // of the headers that are signed
	expires    int      // how many seconds a presigned request holds
	time       int      // that of the date
	secret     string
	who        Who
}

// findWay asks where the request is signed, which must be one place.
func (v *verifier) findWay() api.Errno {
	inHeader := len(http.All(v.r.Headers, authorization))
	v.presigned = slices.ContainsFunc(v.pairs, isSignature)
	switch {
	case inHeader == 0 && !v.presigned:
		return api.ErrAccessDenied
	case inHeader > 0 && v.presigned, inHeader > 1:
		return api.ErrInvalidRequest
	}
	return api.OK
}

func (v *verifier) readParts() api.Errno {
	if v.presigned {
		return v.readPairs()
	}
	return v.readHeader()
}

func (v *verifier) readHeader() api.Errno {
	value, _ := http.Get(v.r.Headers, authorization)
	behind, ok := strings.CutPrefix(value, algorithm+" ")
	parts := chars.Split(behind, ',')
	told, first := partNamed(parts, "Credential=")
	names, second := partNamed(parts, "SignedHeaders=")
	signature, third := partNamed(parts, "Signature=")
	// Three parts in which each of the three is found hold each of them once.
	if !ok || len(parts) != headerParts || !first || !second || !third {
		return api.ErrAuthorizationHeaderMalformed
	}
	return v.take(told, names, signature)
}

// partNamed tells what stands behind the name in the first part that begins with it.
func partNamed(parts []string, name string) (string, bool) {
	for _, part := range parts {
		if value, ok := strings.CutPrefix(chars.Trim(part), name); ok {
			return value, true
		}
	}
	return "", false
}

func (v *verifier) readPairs() api.Errno {
	var values [len(pairNames)]string
	ok := true
	for i, name := range pairNames {
		if values[i], ok = only(v.pairs, name); !ok {
			return api.ErrAuthorizationHeaderMalformed
		}
	}
	for i, value := range values {
		if values[i], ok = chars.Unescape(value); !ok {
			return api.ErrInvalidURI
		}
	}
	v.expires, ok = enc.Int(values[atExpires])
	if !ok || !isExpires(v.expires) || values[atAlgorithm] != algorithm {
		return api.ErrAuthorizationHeaderMalformed
	}
	v.who.Date = values[atDate]
	return v.take(values[atCredential], values[atSigned], values[atSignature])
}

// take keeps the parts that both ways of signing have.
func (v *verifier) take(told, names, signature string) api.Errno {
	if !isDigest(signature) {
		return api.ErrAuthorizationHeaderMalformed
	}
	v.credential = credential(told)
	v.names = chars.Split(names, ';')
	v.who.Signature = signature
	return api.OK
}

// only tells the value of that name, if there is just one.
func only(l []api.Header, name string) (string, bool) {
	values := http.All(l, name)
	if len(values) != 1 {
		return "", false
	}
	return values[0], true
}

func (v *verifier) readDate() api.Errno {
	if !v.presigned {
		v.who.Date, _ = only(v.r.Headers, dateHeader) // without just one it is the empty text, which is no date
	}
	t, ok := when.ParseBasic(v.who.Date)
	if !ok {
		return api.ErrAccessDenied
	}
	v.time = t
	return api.OK
}

func (v *verifier) readCredential() api.Errno {
	if !v.credential.isOf(when.Day(v.time)) {
		return api.ErrAuthorizationHeaderMalformed
	}
	v.who.ID, v.who.Scope = v.credential.name(), v.credential.scope()
	return api.OK
}

func (v *verifier) findKey() api.Errno {
	i := slices.IndexFunc(v.keys, v.credential.names)
	if i < 0 {
		return api.ErrInvalidAccessKeyId
	}
	v.secret = v.keys[i].Secret
	return api.OK
}

func (v *verifier) checkNames() api.Errno {
	if !isRising(v.names) || !slices.Contains(v.names, "host") {
		return api.ErrAccessDenied
	}
	for _, name := range v.names {
		if _, ok := http.Get(v.r.Headers, name); !ok {
			return api.ErrAccessDenied
		}
	}
	for _, h := range v.r.Headers {
		if strings.HasPrefix(h.Name, signedStart) && !slices.Contains(v.names, h.Name) {
			return api.ErrAccessDenied
		}
	}
	return api.OK
}

// isRising tells whether each name stands behind the one ahead of it, so that none comes twice.
func isRising(names []string) bool {
	for i := 1; i < len(names); i++ {
		if names[i-1] >= names[i] {
			return false
		}
	}
	return true
}

// checkTime holds now against bounds around the date, for their difference may be more than an int holds.
func (v *verifier) checkTime() api.Errno {
	until, late := v.time+maxSkew, api.ErrRequestTimeTooSkewed
	if v.presigned {
		until, late = v.time+v.expires, api.ErrAccessDenied
	}
	switch {
	case v.now < v.time-maxSkew:
		return api.ErrRequestTimeTooSkewed
	case v.now > until:
		return late
	}
	return api.OK
}

func (v *verifier) readPayload() api.Errno {
	v.who.Payload = unsigned
	if v.presigned {
		return api.OK
	}
	payload, ok := only(v.r.Headers, payloadHeader)
	if !ok {
		return api.ErrInvalidRequest
	}
	v.who.Payload = payload
	return api.OK
}

func (v *verifier) checkSignature() api.Errno {
	canonical, e := Canonical(v.r, v.names, v.who.Payload, v.presigned)
	if e != api.OK {
		return e
	}
	v.who.Key = SigningKey(v.secret, when.Day(v.time), region, service)
	if Sign(v.who.Key, v.who.Date, v.who.Scope, canonical) != v.who.Signature {
		return api.ErrSignatureDoesNotMatch
	}
	return api.OK
}

// checkBody holds the body against its sum, if the payload is one: the signature is that of the sum alone.
func (v *verifier) checkBody() api.Errno {
	payload := v.who.Payload
	switch {
	case payload == unsigned, payload == streaming:
		return api.OK
	case !isDigest(payload):
		return api.ErrInvalidArgument
	case payload != enc.Hex(hash.SHA256(v.r.Body)):
		return api.ErrXAmzContentSHA256Mismatch
	}
	return api.OK
}

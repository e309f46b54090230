package fault

import "stowage/api"

// named is an error that has a name.
type named struct {
	number api.Errno
	name   string
	status int
}

// Error tells the name.
func (n named) Error() string { return n.name }

// find tells an error by its number: as a named one, or, where it has no name, as the bare number. One switch would be too long for a function, so each of the following goes on where the one ahead of it ends.
func find(e api.Errno) error {
	switch e {
	case api.ErrAccessDenied:
		return named{e, "AccessDenied", 403}
	case api.ErrSignatureDoesNotMatch:
		return named{e, "SignatureDoesNotMatch", 403}
	case api.ErrInvalidAccessKeyId:
		return named{e, "InvalidAccessKeyId", 403}
	case api.ErrRequestTimeTooSkewed:
		return named{e, "RequestTimeTooSkewed", 403}
	case api.ErrAuthorizationHeaderMalformed:
		return named{e, "AuthorizationHeaderMalformed", 400}
	case api.ErrXAmzContentSHA256Mismatch:
		return named{e, "XAmzContentSHA256Mismatch", 400}
	case api.ErrAccessForbidden:
		return named{e, "AccessForbidden", 403}
	case api.ErrIncompleteBody:
		return named{e, "IncompleteBody", 400}
	case api.ErrBadRequest:
		return named{e, "BadRequest", 400}
	case api.ErrMethodNotAllowed:
		return named{e, "MethodNotAllowed", 405}
	}
	return from310(e)
}

// from310 finds the errors from 310 on.
func from310(e api.Errno) error {
	switch e {
	case api.ErrNoSuchBucket:
		return named{e, "NoSuchBucket", 404}
	case api.ErrNoSuchKey:
		return named{e, "NoSuchKey", 404}
	case api.ErrNoSuchVersion:
		return named{e, "NoSuchVersion", 404}
	case api.ErrNoSuchUpload:
		return named{e, "NoSuchUpload", 404}
	case api.ErrNoSuchCORSConfiguration:
		return named{e, "NoSuchCORSConfiguration", 404}
	case api.ErrNoSuchTagSet:
		return named{e, "NoSuchTagSet", 404}
	case api.ErrBucketAlreadyOwnedByYou:
		return named{e, "BucketAlreadyOwnedByYou", 409}
	case api.ErrBucketNotEmpty:
		return named{e, "BucketNotEmpty", 409}
	case api.ErrInvalidBucketName:
		return named{e, "InvalidBucketName", 400}
	case api.ErrInvalidArgument:
		return named{e, "InvalidArgument", 400}
	}
	return from320(e)
}

// from320 finds the errors from 320 on.
func from320(e api.Errno) error {
	switch e {
	case api.ErrInvalidRange:
		return named{e, "InvalidRange", 416}
	case api.ErrInvalidPart:
		return named{e, "InvalidPart", 400}
	case api.ErrInvalidPartOrder:
		return named{e, "InvalidPartOrder", 400}
	case api.ErrEntityTooSmall:
		return named{e, "EntityTooSmall", 400}
	case api.ErrEntityTooLarge:
		return named{e, "EntityTooLarge", 400}
	case api.ErrKeyTooLongError:
		return named{e, "KeyTooLongError", 400}
	case api.ErrMalformedXML:
		return named{e, "MalformedXML", 400}
	case api.ErrPreconditionFailed:
		return named{e, "PreconditionFailed", 412}
	case api.ErrNotModified:
		return named{e, "NotModified", 304}
	case api.ErrBadDigest:
		return named{e, "BadDigest", 400}
	}
	return from330(e)
}

// from330 finds the errors from 330 on.
func from330(e api.Errno) error {
	switch e {
	case api.ErrInvalidDigest:
		return named{e, "InvalidDigest", 400}
	case api.ErrInvalidURI:
		return named{e, "InvalidURI", 400}
	case api.ErrInvalidRequest:
		return named{e, "InvalidRequest", 400}
	case api.ErrInvalidTag:
		return named{e, "InvalidTag", 400}
	case api.ErrSlowDown:
		return named{e, "SlowDown", 503}
	case api.ErrNotImplemented:
		return named{e, "NotImplemented", 501}
	case api.ErrInternalError:
		return named{e, "InternalError", 500}
	case api.ErrExpectationFailed:
		return named{e, "ExpectationFailed", 417}
	case api.ErrRequestURITooLong:
		return named{e, "RequestURITooLong", 414}
	case api.ErrRequestHeaderSectionTooLarge:
		return named{e, "RequestHeaderSectionTooLarge", 431}
	}
	return from340(e)
}

// from340 finds the errors from 340 on.
func from340(e api.Errno) error {
	switch e {
	case api.ErrHTTPVersionNotSupported:
		return named{e, "HTTPVersionNotSupported", 505}
	case api.ErrTooManyBuckets:
		return named{e, "TooManyBuckets", 400}
	}
	return e
}

/- Proved: for all bytes b the law AppBytes returns true: what app.Of reads as an application has, by Bytes, the very bytes that were read; what it refuses is nil, with ErrShort or ErrForm; and the argument reads afterwards as it did. No condition beyond the statement's own; the listed variables are tied to the program's text by the given tie. -/
import Derived.Test.YthmmbopibpdpiaaGreatDoorMAq
import Derived.Test.YthmmbopibpdpiaaGreatDoorAxLaw
namespace Go.Proofs.YthmmbopibpdpiaaGreatDoor

theorem appBytes_card : Rows.AppBytesCardSaid := appBytes_tied lApp
end Go.Proofs.YthmmbopibpdpiaaGreatDoor

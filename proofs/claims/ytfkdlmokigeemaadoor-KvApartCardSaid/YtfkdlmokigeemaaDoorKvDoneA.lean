/- Proved: commands that touch no key in common may change places, keys that no command touches stay, and a copy stands apart, at the commit that this seat was turned at. The card is tied over a pruned copy, and the tables and the shelf's errors as their own start-ups lay them; no other condition. -/
import Derived.Test.YtfkdlmokigeemaaDoorKvLawA
import Derived.Test.YtfkdlmokigeemaaDoorKqU
namespace Go.Proofs.YtfkdlmokigeemaaDoor
theorem kv_apart_card : Rows.KvApartCardSaid := kvApart_tied lKv lKvT
end Go.Proofs.YtfkdlmokigeemaaDoor

/- Proved: a written store is read back, and bytes that are no store are refused by the document's error, at the commit that this seat was turned at. The card is tied over a pruned copy, and the tables and the shelf's errors as their own start-ups lay them; no other condition. -/
import Derived.Test.YtfkdlmokigeemaaGreatDoorKvLawT
import Derived.Test.YtfkdlmokigeemaaGreatDoorMKqG
namespace Go.Proofs.YtfkdlmokigeemaaGreatDoor
theorem kv_takes_card : Rows.KvTakesCardSaid := kvTakes_tied lKv lKvP
end Go.Proofs.YtfkdlmokigeemaaGreatDoor

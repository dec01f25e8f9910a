/- Proved: doing commands one after another answers and leaves what the document says, and so do a copy, the limits and the written form, at the commit that this seat was turned at. The card is tied over a pruned copy, and the tables and the shelf's errors as their own start-ups lay them; no other condition. -/
import Derived.Test.YtfkdlmokigeemaaGreatDoorKvLawP
import Derived.Test.YtfkdlmokigeemaaGreatDoorMKqG
namespace Go.Proofs.YtfkdlmokigeemaaGreatDoor
theorem kv_plays_card : Rows.KvPlaysCardSaid := kvPlays_tied lKv lKvP
end Go.Proofs.YtfkdlmokigeemaaGreatDoor

/- The document's leaf. -/
import Derived.Test.YtcmmbdcflblekaaGreatDoorGg
import Derived.Test.YtcmmbdcflblekaaGreatDoorGz
namespace Go.Proofs.YtcmmbdcflblekaaGreatDoorH
set_option maxRecDepth 100000
set_option linter.unusedVariables false
set_option linter.unusedSimpArgs false
open Go.RowKit
attribute [local go_sem ↓] Go.wp_at_zero Go.wp_at_succ
abbrev zero32 : Array Value := #[.int .u8 0, .int .u8 0, .int .u8 0, .int .u8 0, .int .u8 0, .int .u8 0, .int .u8 0, .int .u8 0, .int .u8 0, .int .u8 0, .int .u8 0, .int .u8 0, .int .u8 0, .int .u8 0, .int .u8 0, .int .u8 0, .int .u8 0, .int .u8 0, .int .u8 0, .int .u8 0, .int .u8 0, .int .u8 0, .int .u8 0, .int .u8 0, .int .u8 0, .int .u8 0, .int .u8 0, .int .u8 0, .int .u8 0, .int .u8 0, .int .u8 0, .int .u8 0]
theorem size_hv (g : Hs) : (Tryz.prog.info? 44).map (·.size) = some (hv g).toArray.size := by rw [List.size_toArray]; exact infoH _
theorem there_hv {w : World} {B : Nat} (h : w.there B 0 32) (g : Hs) : w.there B 0 (hv g).toArray.size := by rw [List.size_toArray, hv_length]; exact h
theorem there_new (w : World) (T : TypeId) : (w.alloc (.cells zero32 T)).there w.heap.size 0 32 := there_of_row (heap_alloc_new _ _) 0 (by simp)
theorem range_new {w : World} {B : Nat} (h : w.there B 0 32) (g : Hs) : (w.setCells B 0 (hv g)).rangeAt B 0 (hv g) := World.rangeAt_setCells_same _ _ _ _ (by rw [hv_length]; exact h)
end Go.Proofs.YtcmmbdcflblekaaGreatDoorH

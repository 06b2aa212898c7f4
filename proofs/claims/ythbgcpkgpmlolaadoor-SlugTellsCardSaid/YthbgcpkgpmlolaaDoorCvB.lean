/-
  A slice of one byte, turned to a text.
-/
import Derived.Test.YthbgcpkgpmlolaaDoorBase
import Derived.Laws.BytesArg
import Derived.Laws.IdiomStrings
namespace Go.Proofs.YthbgcpkgpmlolaaDoor
open Go.RowKit
set_option linter.unusedVariables false

theorem tgConv_byte (w : World) (v : Int) (h0 : 0 ≤ v) (h1 : v ≤ 255) :
    (convert 35 9 (.slice (some ⟨w.heap.size, 0, none⟩) 1 1)).run Tryd.prog (w.alloc (.cells #[.int .u8 v] 5)) = .ok (.string ⟨#[v.toNat.toUInt8]⟩) (w.alloc (.cells #[.int .u8 v] 5)) := by
  exact run_convert_bytes_back (w.alloc (.cells #[.int .u8 v] 5)) 35 9 5 ⟨w.heap.size, 0, none⟩ 1 [v.toNat.toUInt8] Tryd.underlying35 Tryd.underlying5 Tryd.underlying9 (fun j hj => by
    simp only [List.length_cons, List.length_nil] at hj
    obtain rfl : j = 0 := by omega
    have e : ((v.toNat.toUInt8).toNat : Int) = v := by
      rw [Nat.toUInt8_eq, UInt8.toNat_ofNat']
      omega
    show _ = some (Value.int .u8 ((v.toNat.toUInt8).toNat : Int))
    rw [e]
    simp [Addr.add])
theorem conv_u8 (q : UInt8) (w : World) :
    (convert 35 9 (.slice (some ⟨w.heap.size, 0, none⟩) 1 1)).run Tryd.prog (w.alloc (.cells #[.int .u8 q.toNat] 5)) = .ok (.string ⟨#[q]⟩) (w.alloc (.cells #[.int .u8 q.toNat] 5)) := by
  have h := tgConv_byte w q.toNat (by omega) (by have := q.toNat_lt; omega)
  rw [show ((q.toNat : Int)).toNat.toUInt8 = q from by simp] at h
  exact h

end Go.Proofs.YthbgcpkgpmlolaaDoor

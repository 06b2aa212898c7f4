/-
  Package number: oneMore.
-/
import Derived.Test.YtpifhjdbcdcelaaDoorNuP
import Derived.Lib.OthersKept
namespace Go.Proofs.YtpifhjdbcdcelaaDoor
open Go.RowKit
set_option linter.unusedSimpArgs false
set_option linter.unusedVariables false
set_option maxRecDepth 100000

theorem enc_small (q : Nat) (h : q < 128) : Utf8.encode (q : Int) = ⟨#[UInt8.ofNat q]⟩ := by
  have hv : Utf8.valid (q : Int) = true := by unfold Utf8.valid; simp; omega
  unfold Utf8.encode
  simp [hv, h]
theorem repeatL_one48 (n : Nat) : Lib.repeatL [48] n = List.replicate n 48 := by
  induction n with
  | zero => rfl
  | succ n ih => rw [Lib.repeatL, ih]; rfl
theorem enc_next (b : UInt8) (h : b.toNat < 57) : Utf8.encode ((b.toNat : Int) + 1) = ⟨#[b + 1]⟩ := by
  have := enc_small (b.toNat + 1) (by omega)
  rw [show ((b.toNat + 1 : Nat) : Int) = (b.toNat : Int) + 1 from by omega] at this
  rw [this, show UInt8.ofNat (b.toNat + 1) = b + 1 from UInt8.toNat_inj.1 (by simp [UInt8.toNat_add])]
def OmRel (s : ByteArray) (w : World) (z : Value) (wr : World) : Prop :=
  ∃ k : Nat, z = .int .i64 ((k : Int) - 1 - (nines (s.data.toList.take k) : Int)) ∧ k ≤ s.size ∧ wr.heap[w.heap.size]? = some (.stringIter s k) ∧ Below w.heap.size w wr
set_option maxHeartbeats 400000 in
theorem oneMore_at (s : ByteArray) (w : World) (hs : s.size ≤ 100) (hd : ∀ d ∈ s.data.toList, 48 ≤ d.toNat ∧ d.toNat ≤ 57) :
    Calls Tryd.prog 13 #[.string s] w fun e w' => e = .returned (.string ⟨(oneMoreL s.data.toList).toArray⟩) ∧ Below w.heap.size w w' := by
  have HD := Lib.hid hd
  obtain ⟨res, hR⟩ : ∃ res, res = oneMoreL s.data.toList := ⟨_, rfl⟩
  rw [← hR]
  have HR := Lib.hid hR
  clear hd hR
  go_enter Tryd.func13, Tryd.ntmps13
  go_wp2_with fail
  go_loopw [3] (fun z wr => OmRel s w z wr) (fun _ wr => s.size - wr.iterPos w.heap.size)
  case atStart =>
    exact ⟨0, rfl, Nat.zero_le _, World.iter_heap w s 0, (Below.refl _ w).alloc (Nat.le_refl _) _⟩
  case round =>
    obtain ⟨k, rfl, hk, hit, hbw⟩ := hrel
    have hsz : w.heap.size < wr.heap.size := (Array.getElem?_eq_some_iff.1 hit).1
    by_cases hp : k < s.size
    · have hdk := HD.out s[k] (by rw [ByteArray.getElem_eq_getElem_data]; exact List.getElem_mem (l := s.data.toList) _)
      have hnx : ∀ ty, (Instr.next (.pointer (some ⟨w.heap.size, 0, none⟩)) true ty).run Tryd.prog wr = _ := fun ty => Lib.run_next_ascii_at wr w.heap.size s k ty hit hp (by omega)
      have hit2 := Lib.iterAt_heap wr w.heap.size s k (k + 1) hit
      have hbw2 := Lib.below_iterAt hbw (k := w.heap.size) (by omega) s (k + 1)
      have hst : s.data.toList.take (k + 1) = s.data.toList.take k ++ [s[k]] := List.take_succ_eq_append_getElem (by simpa using hp)
      have hni := nines_snoc (s.data.toList.take k) s[k]
      rw [← hst] at hni
      generalize nines (s.data.toList.take k) = n0 at *
      have HIT := Lib.hid hit2
      have HIT0 := Lib.hid hit
      have HBW := Lib.hid hbw2
      clear hit hit2 hbw hbw2 hst
      by_cases h9 : s[k] = 57
      · rw [if_pos h9] at hni
        have HN := Lib.hid hni
        have hq : ((s[k].toNat : Int) != 57) = false := by rw [h9]; rfl
        clear hni h9
        go_wp2
        go_roundw
        case rel => exact ⟨k + 1, by rw [HN.out]; congr 1; omega, by omega, HIT.out, HBW.out⟩
        case measure => simp only [World.iterPos, HIT.out, HIT0.out]; omega
      · rw [if_neg h9] at hni
        have HN := Lib.hid hni
        have hq : ((s[k].toNat : Int) != 57) = true := by
          rw [bne_iff_ne]; intro e; apply h9; apply UInt8.toNat_inj.1; show _ = 57; omega
        clear hni h9
        go_wp2
        go_roundw
        case rel => exact ⟨k + 1, by rw [HN.out]; congr 1; omega, by omega, HIT.out, HBW.out⟩
        case measure => simp only [World.iterPos, HIT.out, HIT0.out]; omega
    · have hnx : ∀ ty, (Instr.next (.pointer (some ⟨w.heap.size, 0, none⟩)) true ty).run Tryd.prog wr = _ := fun ty => Lib.run_next_end_at wr w.heap.size s k ty hit hp
      obtain rfl : k = s.size := by omega
      rw [List.take_of_length_le (by simp)]
      have hle := nines_le s.data.toList
      have hsl : s.data.toList.length = s.size := by simp
      have hnat := nines_at s.data.toList
      rw [hsl] at hnat
      have hres : res = if nines s.data.toList = s.size then 49 :: List.replicate (nines s.data.toList) 48 else s.data.toList.take (s.size - 1 - nines s.data.toList) ++ [s.data.toList.getD (s.size - 1 - nines s.data.toList) 0 + 1] ++ List.replicate (nines s.data.toList) 48 := by rw [HR.out]; unfold oneMoreL; rw [hsl]
      rw [hsl] at hle
      generalize nines s.data.toList = n at *
      have cr := fun W => Tryd.strings_Repeat ⟨#[48]⟩ n W (by omega) (by show 1 * n ≤ _; omega)
      have hrl : (⟨(Lib.repeatL (⟨#[48]⟩ : ByteArray).data.toList n).toArray⟩ : ByteArray) = ⟨(List.replicate n 48).toArray⟩ := by rw [← repeatL_one48]
      rw [show (⟨(Lib.repeatL (⟨#[48]⟩ : ByteArray).data.toList n).toArray⟩ : ByteArray) = ⟨(List.replicate n 48).toArray⟩ from hrl] at cr
      have hzs : (⟨(List.replicate n 48).toArray⟩ : ByteArray).size = n := by rw [str_size]; simp
      by_cases hall : n = s.size
      · rw [if_pos hall] at hres
        subst hall
        have hz : (s.size : Int) - 1 - (s.size : Int) = -1 := by omega
        rw [hz]
        have r1 := fun W => run_string_add_sum (P := Tryd.prog) W (⟨#[49]⟩ : ByteArray) (⟨(List.replicate s.size 48).toArray⟩ : ByteArray) (by rw [hzs]; show 1 + s.size ≤ _; omega)
        rw [show (⟨#[49]⟩ : ByteArray) ++ (⟨(List.replicate s.size 48).toArray⟩ : ByteArray) = ⟨res.toArray⟩ from by rw [hres]; apply ByteArray.ext; apply Array.ext'; simp] at r1
        have CR := Lib.hid cr
        have HBW := Lib.hid hbw
        clear hit hbw hres hrl cr hsl hnat hz hle hzs
        generalize (⟨(List.replicate s.size 48).toArray⟩ : ByteArray) = Z at *
        go_wp2_with fail
        refine (CR.out _).mono ?_
        rintro e w1 ⟨rfl, b1⟩
        go_wp2
        go_ret
        exact ⟨rfl, HBW.out.then b1⟩
      · obtain ⟨m, hm⟩ : ∃ m, s.size = m + 1 + n := ⟨s.size - 1 - n, by omega⟩
        have hm2 : s.size - 1 - n = m := by omega
        rw [if_neg hall, hm2] at hres
        have hz : (s.size : Int) - 1 - (n : Int) = (m : Int) := by omega
        rw [hz]
        have hz2 : (s.size : Int) - 1 - (m : Int) = (n : Int) := by omega
        have hml : m < s.size := by omega
        have hmd := HD.out s[m] (by rw [ByteArray.getElem_eq_getElem_data]; exact List.getElem_mem (l := s.data.toList) _)
        have hgd : s.data.toList.getD m 0 = s[m] := by rw [List.getD_eq_getElem?_getD, List.getElem?_eq_getElem (by simpa using hml)]; rfl
        rw [hgd] at hres
        have hw8 : IntKind.u8.wrap ((s[m].toNat : Int) + 1) = (s[m].toNat : Int) + 1 := by rw [IntKind.wrap_u8]; omega
        have hm57 : s[m].toNat < 57 := by
          have h1 := hnat (by omega)
          rw [hm2, hgd] at h1
          have h2 : s[m].toNat ≠ 57 := fun e => h1 (UInt8.toNat_inj.1 e)
          omega
        have henc := enc_next s[m] hm57
        have hsl2 := fun W => slice_hi s (m : Int) m rfl (by omega) W
        have r1 := fun W => run_string_add_sum (P := Tryd.prog) W (s.extract 0 m) (⟨#[s[m] + 1]⟩ : ByteArray) (by rw [ByteArray.size_extract]; show _ + 1 ≤ _; omega)
        have r2 := fun W => run_string_add_sum (P := Tryd.prog) W (s.extract 0 m ++ (⟨#[s[m] + 1]⟩ : ByteArray)) (⟨(List.replicate n 48).toArray⟩ : ByteArray) (by rw [ByteArray.size_append, ByteArray.size_extract, hzs]; show _ + 1 + n ≤ _; omega)
        rw [show s.extract 0 m ++ (⟨#[s[m] + 1]⟩ : ByteArray) ++ (⟨(List.replicate n 48).toArray⟩ : ByteArray) = ⟨res.toArray⟩ from by rw [hres]; apply ByteArray.ext; apply Array.ext'; simp] at r2
        have CR := Lib.hid cr
        have HBW := Lib.hid hbw
        clear hit hbw hres hrl cr hsl hnat hz hle hzs hgd hm2 hm57 hmd hall
        generalize (⟨(List.replicate n 48).toArray⟩ : ByteArray) = Z at *
        have HM := Lib.hid hm
        have R1 := Lib.hid r1
        have R2 := Lib.hid r2
        have HW8 := Lib.hid hw8
        have HEN := Lib.hid henc
        have HS2 := Lib.hid hsl2
        have hm0 : decide ((m : Int) < 0) = false := by simp
        clear hm r1 r2 hw8 henc hsl2
        go_wp2_with fail
        refine (CR.out _).mono ?_
        rintro e w1 ⟨rfl, b1⟩
        clear hz2 hnx
        go_wp2_with fail
        have r1 := R1.out
        have r2 := R2.out
        have hw8 := HW8.out
        have henc := HEN.out
        have hsl2 := HS2.out
        go_quiet (fail)
        go_wp2
        go_ret
        exact ⟨rfl, HBW.out.then (below_drewN' b1 _)⟩

end Go.Proofs.YtpifhjdbcdcelaaDoor

/-
  Package lattice: New.
-/
import Derived.Test.YtmmdjbbbjlkmoaaDoorLatC
import Derived.Test.YtmmdjbbbjlkmoaaDoorLatD
namespace Go.Proofs.YtmmdjbbbjlkmoaaDoor
open Go.RowKit
set_option linter.unusedVariables false
set_option linter.unusedSimpArgs false

def zeroCells : Array Value := ⟨.int .i64 0 :: List.replicate 128 (.int .u64 0)⟩
def latCells (m : Int) : Array Value := ⟨.int .i64 m :: List.replicate 128 (.int .u64 0)⟩
theorem zeroLat (w : World) : (zeroValue 49).run Tryd.prog w = .ok (.agg zeroCells) w := by kernel_rfl
theorem zeroCells_ne : (zeroCells = #[]) = False := by
  apply eq_false
  intro e
  have := congrArg Array.size e
  simp [zeroCells] at this
theorem zeroCells_set (m : Int) : zeroCells.setIfInBounds 0 (.int .i64 m) = latCells m := by simp [zeroCells, latCells]
theorem latCells_get (m : Int) (a : Nat) (ha : a < 128) : (latCells m)[1 + a]? = some (.int .u64 0) := by
  have : (latCells m)[1 + a]? = (List.replicate 128 (Value.int .u64 0))[a]? := by
    unfold latCells
    rw [Nat.add_comm]
    simp
  rw [this, List.getElem?_replicate, if_pos ha]
theorem latCells_mem (w : World) (n : Nat) : LatMem (w.alloc (.cells (latCells n) 49)) w.heap.size n (fun _ => 0) (fun _ => 0) := by
  have hc : ∀ i, (w.alloc (.cells (latCells n) 49)).cell? ⟨w.heap.size, i, none⟩ = (latCells n)[i]? := fun i => cell_of_row _ _ _ (latCells n) 49 (0, 0) (heap_alloc_new w _)
  refine ⟨?_, fun a ha => ?_, fun a ha => ?_, fun i => ?_, fun _ => by decide, fun _ => by decide⟩
  · rw [hc]; simp [latCells]
  · rw [hc, latCells_get n a (by omega)]; rfl
  · rw [hc, show 65 + a = 1 + (64 + a) from by omega, latCells_get n (64 + a) (by omega)]; rfl
  · simp only [World.frozen?]
    rw [heap_alloc_new]
    simp

def NewEnd (w : World) (n : Int) (ps : List (Int × Int)) (e : Ending) (w' : World) : Prop :=
  Below w.heap.size w w' ∧ ∃ p : Value, e = .returned (.tuple #[p, .int .i64 (errS n ps)]) ∧
    ((errS n ps = 0 ∧ ∃ b, p = .pointer (some ⟨b, 0, none⟩) ∧ w.heap.size ≤ b ∧ LatIs w' b n.toNat (leqS n.toNat ps)) ∨ (errS n ps ≠ 0 ∧ p = .pointer none))
def NewRel (n : Nat) (ps : List (Int × Int)) (w : World) (i : Value) (wr : World) : Prop :=
  ∃ k : Nat, i = .int .i64 k ∧ k ≤ ps.length ∧ (∀ p ∈ ps.take k, okPair n p = true) ∧ LatMem wr w.heap.size n (fun _ => 0) (fun _ => 0) ∧ Below w.heap.size w wr

set_option maxRecDepth 100000 in
set_option maxHeartbeats 2000000 in
theorem new_any (A : Option Addr) (ca : Nat) (n : Int) (ps : List (Int × Int)) (w : World) (hT : TabIs w) (hpr : PairsAt w A ca ps) :
    Calls Tryd.prog 10 #[.int .i64 n, .slice A ps.length ca] w (NewEnd w n ps) := by
  have hlen : ps.length ≤ 9223372036854775807 := by have := hpr.1; have := hpr.2.1; unfold maxLen at this; omega
  by_cases hlo : n < 1
  · have HF := Lib.hid (show errS n ps = 6 from if_pos (Or.inl hlo))
    have f1 : decide (n < 1) = true := by simpa using hlo
    clear hpr hT
    go_enter Tryd.func10, Tryd.ntmps10
    go_wp2
    go_ret2
    refine ⟨Below.refl _ _, _, ?_, Or.inr ⟨by rw [HF.out]; decide, rfl⟩⟩
    rw [HF.out]; rfl
  · by_cases hhi : 64 < n
    · have HF := Lib.hid (show errS n ps = 6 from if_pos (Or.inr hhi))
      have f1 : decide (n < 1) = false := by simpa using hlo
      have f2 : decide (n > 64) = true := by simpa using hhi
      clear hpr hT
      go_enter Tryd.func10, Tryd.ntmps10
      go_wp2
      go_ret2
      refine ⟨Below.refl _ _, _, ?_, Or.inr ⟨by rw [HF.out]; decide, rfl⟩⟩
      rw [HF.out]; rfl
    · obtain ⟨m, rfl⟩ : ∃ m : Nat, n = m := ⟨n.toNat, by omega⟩
      have f1 : decide ((m : Int) < 1) = false := by simpa using hlo
      have f2 : decide ((m : Int) > 64) = false := by simpa using hhi
      have HPR := Lib.hid hpr
      have HT := Lib.hid hT
      clear hpr hT
      go_enter Tryd.func10, Tryd.ntmps10
      go_wp2_with (simp only [zeroLat, zeroCells_ne, zeroCells_set])
      have hb0 : Below w.heap.size w (w.alloc (.cells (latCells m) 49)) := (Below.refl _ w).alloc (Nat.le_refl _) _
      have hm0 := latCells_mem w m
      have HB0 := Lib.hid hb0
      have HM0 := Lib.hid hm0
      generalize w.alloc (.cells (latCells m) 49) = w0 at *
      clear hb0 hm0
      go_loopw [20] (fun i wr => NewRel m ps w i wr) (fun i _ => ps.length - (intOf i).toNat)
      case atStart => exact ⟨0, rfl, Nat.zero_le _, fun p hp => by simp at hp, HM0.out, HB0.out⟩
      case round =>
        obtain ⟨k, rfl, hk, hall, hm, hbw⟩ := hrel
        have HA := Lib.hid hall
        have HB := Lib.hid hbw
        by_cases hkn : k < ps.length
        · have hpr2 := HPR.out.below hbw
          obtain ⟨ba, off, rfl, hlt, hc, hc'⟩ := hpr2.at hkn
          have HTK := Lib.hid (List.take_succ_eq_append_getElem hkn)
          have HME := Lib.hid (List.getElem_mem hkn)
          generalize ps[k] = pq at *
          obtain ⟨p, q⟩ := pq
          simp only at hc hc'
          have hma := hm.below ((Below.refl _ wr).alloc (Nat.le_refl _) (.cells #[.int .i64 p, .int .i64 q] 43))
          have HMA := Lib.hid hma
          have HBA := Lib.hid (hbw.alloc hbw.size (.cells #[.int .i64 p, .int .i64 q] 43))
          have ch := has_any p q _ hma
          clear hm hbw hpr2 hma hall
          cases hok : hasS m p q with
          | true =>
            rw [hok] at ch
            have HO := Lib.hid (show okPair m (p, q) = true from hok)
            clear hok
            go_wp2_with fail
            refine ch.mono ?_
            rintro e w2 ⟨rfl, rfl⟩
            go_wp2
            go_roundw
            case rel =>
              refine ⟨k + 1, by go_num, by omega, fun x hx => ?_, HMA.out, HBA.out⟩
              rw [HTK.out, List.mem_append, List.mem_singleton] at hx
              rcases hx with hx | rfl
              · exact HA.out x hx
              · exact HO.out
            case measure => simp [intOf]; omega
          | false =>
            rw [hok] at ch
            have HF := Lib.hid (show errS m ps = 6 from by
              unfold errS
              rw [if_neg (by omega), if_pos]
              rw [List.all_eq_false]
              exact ⟨_, HME.out, by show ¬ (hasS m p q = true); rw [hok]; decide⟩)
            clear hok
            go_wp2_with fail
            refine ch.mono ?_
            rintro e w2 ⟨rfl, rfl⟩
            go_wp2
            go_ret2
            refine ⟨HBA.out, _, ?_, Or.inr ⟨by rw [HF.out]; decide, rfl⟩⟩
            rw [HF.out]; rfl
        · obtain rfl : k = ps.length := by omega
          have hall2 := hall
          rw [List.take_length] at hall2
          have hpos : 1 ≤ m := by omega
          have h64 : m ≤ 64 := by omega
          have co := order_any w.heap.size m A ca ps w wr rfl hbw HPR.out hpos h64 (fun p hp => by have := hall2 p hp; simpa [okPair] using this) hm
          have HAL := Lib.hid hall2
          clear hm hbw hall hall2
          go_wp2_with fail
          refine co.mono ?_
          rintro e w2 ⟨rfl, hm2, hb2⟩
          have hl2 : LatIs w2 w.heap.size m (leqS m ps) := ⟨hm2, hpos, h64, fun a _ => leqS_refl m ps a, fun a b c _ _ hc h1 h2 => leqS_trans hc h1 h2⟩
          have cs := sound_any w2 (HT.out.below hb2) hl2
          have HL2 := Lib.hid hl2
          have HB2 := Lib.hid hb2
          clear hm2 hb2 hl2 co
          by_cases hs : Sound m (leqS m ps)
          · have HF := Lib.hid (show errS m ps = 0 from by
              unfold errS
              rw [if_neg (by omega), if_neg, if_pos]
              · exact hs
              · rw [Bool.not_eq_false, List.all_eq_true]; exact HAL.out)
            rw [decide_eq_true hs] at cs
            clear hs
            go_wp2_with fail
            refine cs.mono ?_
            rintro e w3 ⟨rfl, m3, rfl⟩
            go_wp2
            go_ret2
            refine ⟨below_drewN' HB2.out m3, _, ?_, Or.inl ⟨HF.out, w.heap.size, rfl, Nat.le_refl _, HL2.out.heap rfl⟩⟩
            rw [HF.out]; rfl
          · have HF := Lib.hid (show errS m ps = 1 from by
              unfold errS
              rw [if_neg (by omega), if_neg, if_neg]
              · exact hs
              · rw [Bool.not_eq_false, List.all_eq_true]; exact HAL.out)
            rw [decide_eq_false hs] at cs
            clear hs
            go_wp2_with fail
            refine cs.mono ?_
            rintro e w3 ⟨rfl, m3, rfl⟩
            go_wp2
            go_ret2
            refine ⟨below_drewN' HB2.out m3, _, ?_, Or.inr ⟨by rw [HF.out]; decide, rfl⟩⟩
            rw [HF.out]; rfl

theorem new_ok (A : Option Addr) (ca m : Nat) (ps : List (Int × Int)) (w : World) (hT : TabIs w) (hpr : PairsAt w A ca ps) (he : errS m ps = 0) :
    Calls Tryd.prog 10 #[.int .i64 m, .slice A ps.length ca] w fun e w' =>
      ∃ b, e = .returned (.tuple #[.pointer (some ⟨b, 0, none⟩), .int .i64 0]) ∧ Below w.heap.size w w' ∧ w.heap.size ≤ b ∧ LatIs w' b m (leqS m ps) := by
  refine (new_any A ca m ps w hT hpr).mono ?_
  rintro e w1 ⟨b1, p, rfl, h⟩
  rcases h with ⟨_, b, rfl, hbl, hl⟩ | ⟨h, _⟩
  · exact ⟨b, by rw [he], b1, hbl, hl⟩
  · exact absurd he h
theorem new_err (A : Option Addr) (ca : Nat) (n k : Int) (ps : List (Int × Int)) (w : World) (hT : TabIs w) (hpr : PairsAt w A ca ps) (he : errS n ps = k) (hk : k ≠ 0) :
    Calls Tryd.prog 10 #[.int .i64 n, .slice A ps.length ca] w fun e w' => e = .returned (.tuple #[.pointer none, .int .i64 k]) ∧ Below w.heap.size w w' := by
  refine (new_any A ca n ps w hT hpr).mono ?_
  rintro e w1 ⟨b1, p, rfl, h⟩
  rcases h with ⟨h, _⟩ | ⟨_, rfl⟩
  · exact absurd (he.symm.trans h) hk
  · exact ⟨by rw [he], b1⟩

end Go.Proofs.YtmmdjbbbjlkmoaaDoor

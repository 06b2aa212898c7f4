/-
  Package frame: beginsHeading, Heading, spanAt: what each answers, in plain words.
  Package frame: Heading, spanAt: what each answers, in plain words.
-/
import Derived.Test.YtkcmhdkhdjmjeaaGreatDoorFrmA
import Derived.Test.YtkcmhdkhdjmjeaaGreatDoorPla
import Derived.Laws.ResultCell
namespace Go.Proofs.YtkcmhdkhdjmjeaaGreatDoor
open Go.RowKit
set_option linter.unusedSimpArgs false
set_option linter.unusedVariables false
set_option maxRecDepth 100000

def BegRel (s : ByteArray) (w : World) (I : Nat) (x y : Value) (wr : World) : Prop :=
  ∃ k bl sg : Nat, x = .int .i64 bl ∧ y = .int .i64 sg ∧ k ≤ s.size ∧ bl ≤ k ∧ sg ≤ k ∧ wr.heap[I]? = some (.stringIter s k) ∧ Below w.heap.size w wr ∧ begF bl sg (s.data.toList.drop k) = begF 0 0 s.data.toList

set_option maxHeartbeats 4000000 in
theorem beginsHeading_any (s : ByteArray) (w : World) (hs : s.size ≤ 140737488355328) :
    Calls Tryz.prog 76 #[.string s] w fun e w' => e = .returned (.bool (begF 0 0 s.data.toList)) ∧ Below w.heap.size w w' := by
  go_enter Tryz.func76, Tryz.ntmps76
  go_wp2_with fail
  go_loopw [3, 4] (fun x y wr => BegRel s w w.heap.size x y wr) (fun _ _ wr => s.size - wr.iterPos w.heap.size)
  case atStart => exact ⟨0, 0, 0, rfl, rfl, Nat.zero_le _, Nat.le_refl _, Nat.le_refl _, World.iter_heap w s 0, (Below.refl _ w).alloc (Nat.le_refl _) _, by simp⟩
  case round =>
    obtain ⟨k, bl, sg, rfl, rfl, hk, hbl, hsg, hit, hbw, hF⟩ := hrel
    by_cases hp : k < s.size
    · have hnx : ∀ ty, (Instr.next (.pointer (some ⟨w.heap.size, 0, none⟩)) true ty).run Tryz.prog wr = _ := fun ty => Lib.run_next_any_at wr w.heap.size s k ty hit hp
      have hit2 := Lib.iterAt_heap wr w.heap.size s k (k + (Utf8.decode s k).2) hit
      have hbw2 := Lib.below_iterAt hbw (k := w.heap.size) (by omega) s (k + (Utf8.decode s k).2)
      have Hit := Lib.hid hit
      rw [get_list s k hp, begF] at hF
      clear hit hbw
      by_cases h32 : s[k] = 32
      · have hd : Utf8.decode s k = (s[k].toNat, 1) := decode_ascii s k hp (by rw [h32]; decide)
        rw [hd] at hnx hit2 hbw2
        simp only at hnx hit2 hbw2
        have f32 : ((s[k].toNat : Int) == 32) = true := by simp [h32]
        rw [if_pos h32] at hF
        clear hd h32
        by_cases h0 : 0 < sg
        · rw [if_pos h0] at hF
          have f0 : decide ((0 : Int) < sg) = true := by simp; omega
          have HF := Lib.hid hF
          clear hF
          by_cases h3 : bl ≤ 3
          · have f3 : decide ((bl : Int) ≤ 3) = true := by simp; omega
            go_wp2
            all_goals go_ret
            all_goals exact ⟨ret_bool (by rw [← HF.out, Bool.eq_iff_iff]; simp; omega), hbw2⟩
          · have f3 : decide ((bl : Int) ≤ 3) = false := by simp; omega
            go_wp2
            all_goals go_ret
            all_goals exact ⟨ret_bool (by rw [← HF.out, Bool.eq_iff_iff]; simp; omega), hbw2⟩
        · obtain rfl : sg = 0 := by omega
          rw [if_neg (by omega)] at hF
          have HF := Lib.hid hF
          clear hF
          go_wp2
          go_roundw
          case rel => exact ⟨k + 1, bl + 1, 0, by go_num, rfl, by omega, by omega, by omega, hit2, hbw2, HF.out⟩
          case measure => simp only [World.iterPos, hit2, Hit.out]; omega
      · rw [if_neg h32] at hF
        by_cases h35 : s[k] = 35
        · have hd : Utf8.decode s k = (s[k].toNat, 1) := decode_ascii s k hp (by rw [h35]; decide)
          rw [hd] at hnx hit2 hbw2
          simp only at hnx hit2 hbw2
          have f32 : ((s[k].toNat : Int) == 32) = false := by simp [h35]
          have f35 : ((s[k].toNat : Int) == 35) = true := by simp [h35]
          rw [if_pos h35] at hF
          have HF := Lib.hid hF
          clear hd h32 h35 hF
          go_wp2
          go_roundw
          case rel => exact ⟨k + 1, bl, sg + 1, rfl, by go_num, by omega, by omega, by omega, hit2, hbw2, HF.out⟩
          case measure => simp only [World.iterPos, hit2, Hit.out]; omega
        · rw [if_neg h35] at hF
          have hr : ¬ (Utf8.decode s k).1 = 32 ∧ ¬ (Utf8.decode s k).1 = 35 := by
            by_cases ha : s[k].toNat < 128
            · rw [decode_ascii s k hp ha]
              constructor
              · intro e; exact h32 (by apply UInt8.toNat_inj.1; simpa using e)
              · intro e; exact h35 (by apply UInt8.toNat_inj.1; simpa using e)
            · have := (decode_high s k hp (by omega)).1
              omega
          have f32 : (((Utf8.decode s k).1 : Int) == 32) = false := by simp; omega
          have f35 : (((Utf8.decode s k).1 : Int) == 35) = false := by simp; omega
          have HF := Lib.hid hF
          clear hr h32 h35 hF
          go_wp2
          go_ret
          exact ⟨ret_bool HF.out, hbw2⟩
    · have hnx : ∀ ty, (Instr.next (.pointer (some ⟨w.heap.size, 0, none⟩)) true ty).run Tryz.prog wr = _ := fun ty => Lib.run_next_end_at wr w.heap.size s k ty hit hp
      have e : s.data.toList.drop k = [] := List.drop_eq_nil_of_le (by simp; omega)
      rw [e, begF] at hF
      have HF := Lib.hid hF
      clear e hF
      go_wp2
      go_ret
      exact ⟨ret_bool HF.out, hbw⟩

end Go.Proofs.YtkcmhdkhdjmjeaaGreatDoor

namespace Go.Proofs.YtkcmhdkhdjmjeaaGreatDoor
open Go.RowKit
set_option linter.unusedSimpArgs false
set_option linter.unusedVariables false
set_option maxRecDepth 100000

theorem ext_head (s : ByteArray) (i : Nat) (h : i ≤ s.size) : (s.extract 0 i).data.toList = s.data.toList.take i := by
  rw [ext_bytes]; simp
theorem ext_tail (s : ByteArray) (i : Nat) : (s.extract i s.size).data.toList = s.data.toList.drop i := by
  rw [ext_bytes]
  show (s.data.toList.drop i).take (s.size - i) = _
  rw [List.take_of_length_le (by rw [List.length_drop]; simp)]
def headV : Option (Txt × Txt) → Value
  | some (t, l) => .tuple #[.string ⟨t.toArray⟩, .string ⟨l.toArray⟩, .bool true]
  | none => .tuple #[.string ⟨#[]⟩, .string ⟨#[]⟩, .bool false]
theorem ext_size_le (s : ByteArray) (a b : Nat) : (s.extract a b).size ≤ s.size := by
  rw [ext_bytes, str_size]
  have : s.data.toList.length = s.size := by simp
  simp; omega

set_option maxHeartbeats 4000000 in
theorem heading_any (s : ByteArray) (w : World) (hs : s.size ≤ 140737488355328) :
    Calls Tryz.prog 36 #[.string s] w fun e w' => e = .returned (headV (headingL s.data.toList)) ∧ Below w.heap.size w w' := by
  have cl := Tryz.strings_LastIndex s ⟨#[123, 61]⟩ (by omega) w
  rw [show (⟨#[123, 61]⟩ : ByteArray).data.toList = headB from rfl] at cl
  have hl : s.data.toList.length = s.size := by simp
  unfold headingL
  rcases lastIndex_cases s.data.toList headB with ⟨h1, _⟩ | ⟨i, h1, h2, _, _⟩
  · rw [h1] at cl ⊢
    rw [if_neg (by omega)]
    go_enter Tryz.func36, Tryz.ntmps36
    go_wp2_with fail
    refine cl.mono ?_
    rintro e w1 ⟨rfl, rfl⟩
    go_wp2
    go_ret3
    exact ⟨rfl, Below.refl _ _⟩
  · rw [h1] at cl ⊢
    rw [if_pos (by omega), Int.toNat_natCast]
    rw [hl, show headB.length = 2 from rfl] at h2
    have cb := beginsHeading_any (s.extract 0 i) w (by have := ext_size_le s 0 i; omega)
    rw [ext_head s i (by omega)] at cb
    have cx := fun w1 => lastLabel_any (s.extract (i + 2) s.size) w1 (by have := ext_size_le s (i + 2) s.size; omega)
    rw [ext_tail] at cx
    cases hb : begF 0 0 (s.data.toList.take i) with
    | false =>
      rw [hb] at cb
      rw [if_neg (by simp)]
      clear h1 hl hb
      go_enter Tryz.func36, Tryz.ntmps36
      go_wp2_with fail
      refine cl.mono ?_
      rintro e w1 ⟨rfl, rfl⟩
      go_wp2_with fail
      refine cb.mono ?_
      rintro e w2 ⟨rfl, b2⟩
      go_wp2
      go_ret3
      exact ⟨rfl, b2⟩
    | true =>
      rw [hb] at cb
      rw [if_pos rfl]
      have HE := Lib.hid (show s.extract 0 i = ⟨(s.data.toList.take i).toArray⟩ from by rw [← ext_head s i (by omega)])
      cases hx : lastLab (s.data.toList.drop (i + 2)) with
      | none =>
        rw [hx] at cx
        unfold optV at cx
        dsimp only at cx ⊢
        clear h1 hl hb hx
        go_enter Tryz.func36, Tryz.ntmps36
        go_wp2_with fail
        refine cl.mono ?_
        rintro e w1 ⟨rfl, rfl⟩
        go_wp2_with fail
        refine cb.mono ?_
        rintro e w2 ⟨rfl, b2⟩
        go_wp2_with fail
        refine (cx _).mono ?_
        rintro e w3 ⟨rfl, b3⟩
        go_wp2
        go_ret3
        exact ⟨rfl, b2.then b3⟩
      | some lab =>
        rw [hx] at cx
        unfold optV at cx
        dsimp only at cx ⊢
        clear h1 hl hb hx
        go_enter Tryz.func36, Tryz.ntmps36
        go_wp2_with fail
        refine cl.mono ?_
        rintro e w1 ⟨rfl, rfl⟩
        go_wp2_with fail
        refine cb.mono ?_
        rintro e w2 ⟨rfl, b2⟩
        go_wp2_with fail
        refine (cx _).mono ?_
        rintro e w3 ⟨rfl, b3⟩
        go_wp2
        go_ret3
        exact ⟨by rw [HE.out]; rfl, b2.then b3⟩

def pcV (p : Pc) : Value := .agg #[.bool p.sp, .string ⟨p.lab.toArray⟩, .string ⟨p.txt.toArray⟩]
def spanV : Option (Txt × Txt) → Value
  | some (l, t) => .tuple #[.agg #[.bool true, .string ⟨l.toArray⟩, .string ⟨t.toArray⟩], .bool true]
  | none => .tuple #[.agg #[.bool false, .string ⟨#[]⟩, .string ⟨#[]⟩], .bool false]
/-- The library's variable, whatever number it holds. -/
def MaxL (w : World) : Prop := ∃ m : Int, w.cell? ⟨1, 0, none⟩ = some (.int .i64 m)
theorem MaxL.below {w w' : World} (h : MaxL w) (hb : Below w.heap.size w w') : MaxL w' := by
  obtain ⟨m, hm⟩ := h
  exact ⟨m, (hb.cell (p := ⟨1, 0, none⟩) (World.block_lt_of_cell? _ _ hm)).trans hm⟩
theorem MaxL.lt {w : World} (h : MaxL w) : 1 < w.heap.size := by
  obtain ⟨m, hm⟩ := h
  exact World.block_lt_of_cell? _ _ hm
theorem MaxL.belowB {w w' : World} {B : Nat} (h : MaxL w) (hb : Below B w w') (hB : 1 < B) : MaxL w' := by
  obtain ⟨m, hm⟩ := h
  exact ⟨m, (hb.cell (p := ⟨1, 0, none⟩) hB).trans hm⟩
theorem MaxL.heap {w w' : World} (h : MaxL w) (hh : w'.heap = w.heap) : MaxL w' := by
  obtain ⟨m, hm⟩ := h
  exact ⟨m, by simpa [World.cell?, hh] using hm⟩
theorem MaxL.alloc {w : World} (h : MaxL w) (o : Obj) : MaxL (w.alloc o) := h.below ((Below.refl _ w).alloc (Nat.le_refl _) o)
theorem cut_any (s : ByteArray) (w : World) (hs : s.size < 4294967281) (hm : MaxL w) :
    Calls Tryz.prog 107 #[.string s, .string ⟨#[124, 125]⟩] w fun e w' =>
      e = .returned (.tuple #[.string ⟨(Lib.cut s.data.toList spE).1.toArray⟩, .string ⟨(Lib.cut s.data.toList spE).2.1.toArray⟩, .bool (Lib.cut s.data.toList spE).2.2]) ∧ ∃ n, w' = w.drewN n := by
  obtain ⟨m, hm⟩ := hm
  exact Tryz.strings_Cut s ⟨#[124, 125]⟩ m w hs hm

/-- A block of three cells, behind a call that makes memory alone. -/
theorem box3 {w w1 : World} {a b c : Value} {t : TypeId} (h : Below (w.alloc (.cells #[a, b, c] t)).heap.size (w.alloc (.cells #[a, b, c] t)) w1) :
    w1.cell? ⟨w.heap.size, 0, none⟩ = some a ∧ w1.cell? ⟨w.heap.size, 1, none⟩ = some b ∧ w1.cell? ⟨w.heap.size, 2, none⟩ = some c ∧ (∀ i, w1.frozen? ⟨w.heap.size, i, none⟩ = false) ∧ w1.heap[w.heap.size]? = some (.cells #[a, b, c] t (0, 0)) := by
  have hb : w1.heap[w.heap.size]? = some (.cells #[a, b, c] t (0, 0)) := (h.block w.heap.size (by rw [alloc_size]; omega)).trans (heap_alloc_new w _)
  refine ⟨?_, ?_, ?_, fun i => by simp [World.frozen?, hb], hb⟩
  · rw [cell_of_row w1 _ 0 _ t (0, 0) hb]; rfl
  · rw [cell_of_row w1 _ 1 _ t (0, 0) hb]; rfl
  · rw [cell_of_row w1 _ 2 _ t (0, 0) hb]; rfl
/-- The three of them set anew. -/
theorem box3_set {w : World} {g : Nat} {a b c x y z : Value} {t : TypeId} (h : w.heap[g]? = some (.cells #[a, b, c] t (0, 0))) :
    (((w.setCell ⟨g, 0, none⟩ x).setCell ⟨g, 1, none⟩ y).setCell ⟨g, 2, none⟩ z).heap[g]? = some (.cells #[x, y, z] t (0, 0)) := by
  simp [World.setCell, Array.getElem?_modify, h]
theorem box3_cells {w : World} {g : Nat} {x y z : Value} {t : TypeId} (h : w.heap[g]? = some (.cells #[x, y, z] t (0, 0))) :
    w.cell? ⟨g, 0, none⟩ = some x ∧ w.cell? ⟨g, 1, none⟩ = some y ∧ w.cell? ⟨g, 2, none⟩ = some z := by
  refine ⟨?_, ?_, ?_⟩
  · rw [cell_of_row w _ 0 _ t (0, 0) h]; rfl
  · rw [cell_of_row w _ 1 _ t (0, 0) h]; rfl
  · rw [cell_of_row w _ 2 _ t (0, 0) h]; rfl

set_option maxHeartbeats 4000000 in
theorem spanAt_any (s : ByteArray) (w : World) (hs : s.size ≤ 4000000000) (hml : MaxL w) :
    Calls Tryz.prog 82 #[.string s] w fun e w' => e = .returned (spanV (spanAtL s.data.toList)) ∧ Below w.heap.size w w' := by
  have hl : s.data.toList.length = s.size := by simp
  have c1 := fun w1 => Tryz.strings_CutPrefix s ⟨#[123, 124]⟩ w1
  rw [show (⟨#[123, 124]⟩ : ByteArray).data.toList = spB from rfl, hasPre] at c1
  have b0 : Below w.heap.size w (w.alloc (.cells #[.bool false, .string ⟨#[]⟩, .string ⟨#[]⟩] 76)) := (Below.refl _ w).alloc (Nat.le_refl _) _
  have hm0 := hml.alloc (.cells #[.bool false, .string ⟨#[]⟩, .string ⟨#[]⟩] 76)
  unfold spanAtL
  cases h1 : spB.isPrefixOf s.data.toList with
  | false =>
    rw [h1] at c1
    rw [if_neg (by simp)]
    clear h1 hl
    go_enter Tryz.func82, Tryz.ntmps82
    go_wp2_with fail
    refine (c1 _).mono ?_
    rintro e w1 ⟨rfl, rfl⟩
    go_wp2
    (try simp only [Exit.inBlock, Exit.then])
    refine bodyPost_ret (v := spanV none) ?_ rfl ⟨rfl, b0⟩
    rw [results_cell_tmp rfl]
    go_simp
    rfl
  | true =>
    rw [show Lib.trimPrefix s.data.toList spB = s.data.toList.drop 2 from by unfold Lib.trimPrefix; rw [hasPre, h1]; rfl, h1] at c1
    rw [if_pos rfl]
    have hrl : (s.data.toList.drop 2).length ≤ 4000000000 := by rw [List.length_drop]; omega
    generalize s.data.toList.drop 2 = r at *
    have cl := fun w1 => labelAt_any ⟨r.toArray⟩ w1 (by rw [str_size]; omega)
    rw [show (⟨r.toArray⟩ : ByteArray).data.toList = r from rfl] at cl
    have hn := labSize_le r
    generalize hnn : labSize r = n at *
    clear h1 hl hnn
    cases h2 : labOk n with
    | false =>
      rw [h2] at cl
      rw [Bool.false_and, if_neg (by simp)]
      clear h2
      go_enter Tryz.func82, Tryz.ntmps82
      go_wp2_with fail
      refine (c1 _).mono ?_
      rintro e w1 ⟨rfl, rfl⟩
      go_wp2_with fail
      refine (cl _).mono ?_
      rintro e w2 ⟨rfl, b2⟩
      obtain ⟨hc0, hc1, hc2, hf, hb⟩ := box3 b2
      have hbel := b0.then b2
      go_wp2
      (try simp only [Exit.inBlock, Exit.then])
      have hx := box3_set (x := .bool false) (y := .string ⟨#[]⟩) (z := .string ⟨#[]⟩) hb
      have hB := ((hbel.setCell (p := ⟨w.heap.size, 0, none⟩) (Nat.le_refl _) (.bool false)).setCell (p := ⟨w.heap.size, 1, none⟩) (Nat.le_refl _) (.string ⟨#[]⟩)).setCell (p := ⟨w.heap.size, 2, none⟩) (Nat.le_refl _) (.string ⟨#[]⟩)
      generalize hW : (((w2.setCell ⟨w.heap.size, 0, none⟩ (.bool false)).setCell ⟨w.heap.size, 1, none⟩ (.string ⟨#[]⟩)).setCell ⟨w.heap.size, 2, none⟩ (.string ⟨#[]⟩)) = W at *
      obtain ⟨k0, k1, k2⟩ := box3_cells hx
      refine bodyPost_ret (v := spanV none) ?_ rfl ⟨rfl, hB⟩
      rw [results_cell_tmp rfl]
      go_simp
      rfl
    | true =>
      rw [h2] at cl
      rw [Bool.true_and]
      have ch := fun w1 => Tryz.strings_HasPrefix ((⟨r.toArray⟩ : ByteArray).extract n (⟨r.toArray⟩ : ByteArray).size) ⟨#[58]⟩ w1
      rw [ext_tail, show (⟨r.toArray⟩ : ByteArray).data.toList = r from rfl, show (⟨#[58]⟩ : ByteArray).data.toList = [58] from rfl, hasPre] at ch
      have hsz := str_size r
      have h1n : 1 ≤ n := by unfold labOk at h2; simp at h2; omega
      cases h3 : List.isPrefixOf [58] (r.drop n) with
      | false =>
        rw [h3] at ch
        rw [if_neg (by simp)]
        clear h2 h3
        go_enter Tryz.func82, Tryz.ntmps82
        go_wp2_with fail
        refine (c1 _).mono ?_
        rintro e w1 ⟨rfl, rfl⟩
        go_wp2_with fail
        refine (cl _).mono ?_
        rintro e w2 ⟨rfl, b2⟩
        obtain ⟨hc0, hc1, hc2, hf, hb⟩ := box3 b2
        have hbel := b0.then b2
        go_wp2_with fail
        refine (ch _).mono ?_
        rintro e w3 ⟨rfl, rfl⟩
        go_wp2
        (try simp only [Exit.inBlock, Exit.then])
        have hx := box3_set (x := .bool false) (y := .string ⟨#[]⟩) (z := .string ⟨#[]⟩) hb
        have hB := ((hbel.setCell (p := ⟨w.heap.size, 0, none⟩) (Nat.le_refl _) (.bool false)).setCell (p := ⟨w.heap.size, 1, none⟩) (Nat.le_refl _) (.string ⟨#[]⟩)).setCell (p := ⟨w.heap.size, 2, none⟩) (Nat.le_refl _) (.string ⟨#[]⟩)
        generalize hW : (((w3.setCell ⟨w.heap.size, 0, none⟩ (.bool false)).setCell ⟨w.heap.size, 1, none⟩ (.string ⟨#[]⟩)).setCell ⟨w.heap.size, 2, none⟩ (.string ⟨#[]⟩)) = W at *
        obtain ⟨k0, k1, k2⟩ := box3_cells hx
        refine bodyPost_ret (v := spanV none) ?_ rfl ⟨rfl, hB⟩
        rw [results_cell_tmp rfl]
        go_simp
        rfl
      | true =>
        rw [h3] at ch
        rw [if_pos rfl]
        have hlt : n < r.length := by
          have := prefix_of h3
          have h4 := congrArg List.length this
          rw [List.length_append, List.length_drop] at h4
          simp at h4; omega
        have cc := fun w1 hm => cut_any ((⟨r.toArray⟩ : ByteArray).extract (n + 1) (⟨r.toArray⟩ : ByteArray).size) w1 (by have := ext_size_le (⟨r.toArray⟩ : ByteArray) (n + 1) (⟨r.toArray⟩ : ByteArray).size; omega) hm
        rw [ext_tail, show (⟨r.toArray⟩ : ByteArray).data.toList = r from rfl] at cc
        have HE := Lib.hid (show (⟨r.toArray⟩ : ByteArray).extract 0 n = ⟨(r.take n).toArray⟩ from by rw [ext_bytes]; rfl)
        generalize Lib.cut (r.drop (n + 1)) spE = cu at *
        obtain ⟨q1, q2, q3⟩ := cu
        simp only at cc ⊢
        clear h2 h3
        cases q3 with
        | false =>
          rw [if_neg (by simp)]
          go_enter Tryz.func82, Tryz.ntmps82
          go_wp2_with fail
          refine (c1 _).mono ?_
          rintro e w1 ⟨rfl, rfl⟩
          go_wp2_with fail
          refine (cl _).mono ?_
          rintro e w2 ⟨rfl, b2⟩
          have hm2 := hm0.below b2
          obtain ⟨hc0, hc1, hc2, hf, hb⟩ := box3 b2
          have hbel := b0.then b2
          go_wp2_with fail
          refine (ch _).mono ?_
          rintro e w3 ⟨rfl, rfl⟩
          go_wp2_with fail
          refine (cc _ hm2).mono ?_
          rintro e w4 ⟨rfl, nd, rfl⟩
          have hc0' : (w3.drewN nd).cell? ⟨w.heap.size, 0, none⟩ = _ := hc0
          have hc1' : (w3.drewN nd).cell? ⟨w.heap.size, 1, none⟩ = _ := hc1
          have hc2' : (w3.drewN nd).cell? ⟨w.heap.size, 2, none⟩ = _ := hc2
          have hf' : ∀ i, (w3.drewN nd).frozen? ⟨w.heap.size, i, none⟩ = false := hf
          have hb' : (w3.drewN nd).heap[w.heap.size]? = _ := hb
          have hbel' := below_drewN' hbel nd
          generalize w3.drewN nd = w5 at *
          clear hc0 hc1 hc2 hf hb hbel
          have hb := hb'
          go_wp2
          (try simp only [Exit.inBlock, Exit.then])
          have hx := box3_set (x := .bool false) (y := .string ⟨#[]⟩) (z := .string ⟨#[]⟩) hb
          have hB := ((hbel'.setCell (p := ⟨w.heap.size, 0, none⟩) (Nat.le_refl _) (.bool false)).setCell (p := ⟨w.heap.size, 1, none⟩) (Nat.le_refl _) (.string ⟨#[]⟩)).setCell (p := ⟨w.heap.size, 2, none⟩) (Nat.le_refl _) (.string ⟨#[]⟩)
          generalize hW : (((w5.setCell ⟨w.heap.size, 0, none⟩ (.bool false)).setCell ⟨w.heap.size, 1, none⟩ (.string ⟨#[]⟩)).setCell ⟨w.heap.size, 2, none⟩ (.string ⟨#[]⟩)) = W at *
          obtain ⟨k0, k1, k2⟩ := box3_cells hx
          refine bodyPost_ret (v := spanV none) ?_ rfl ⟨rfl, hB⟩
          rw [results_cell_tmp rfl]
          go_simp
          rfl
        | true =>
          rw [if_pos rfl]
          go_enter Tryz.func82, Tryz.ntmps82
          go_wp2_with fail
          refine (c1 _).mono ?_
          rintro e w1 ⟨rfl, rfl⟩
          go_wp2_with fail
          refine (cl _).mono ?_
          rintro e w2 ⟨rfl, b2⟩
          have hm2 := hm0.below b2
          obtain ⟨hc0, hc1, hc2, hf, hb⟩ := box3 b2
          have hbel := b0.then b2
          go_wp2_with fail
          refine (ch _).mono ?_
          rintro e w3 ⟨rfl, rfl⟩
          go_wp2_with fail
          refine (cc _ hm2).mono ?_
          rintro e w4 ⟨rfl, nd, rfl⟩
          have hc0' : (w3.drewN nd).cell? ⟨w.heap.size, 0, none⟩ = _ := hc0
          have hc1' : (w3.drewN nd).cell? ⟨w.heap.size, 1, none⟩ = _ := hc1
          have hc2' : (w3.drewN nd).cell? ⟨w.heap.size, 2, none⟩ = _ := hc2
          have hf' : ∀ i, (w3.drewN nd).frozen? ⟨w.heap.size, i, none⟩ = false := hf
          have hb' : (w3.drewN nd).heap[w.heap.size]? = _ := hb
          have hbel' := below_drewN' hbel nd
          generalize w3.drewN nd = w5 at *
          clear hc0 hc1 hc2 hf hb hbel
          have hb := hb'
          go_wp2
          (try simp only [Exit.inBlock, Exit.then])
          try rw [HE.out]
          have hx := box3_set (x := .bool true) (y := .string ⟨(r.take n).toArray⟩) (z := .string ⟨q1.toArray⟩) hb
          have hB := ((hbel'.setCell (p := ⟨w.heap.size, 0, none⟩) (Nat.le_refl _) (.bool true)).setCell (p := ⟨w.heap.size, 1, none⟩) (Nat.le_refl _) (.string ⟨(r.take n).toArray⟩)).setCell (p := ⟨w.heap.size, 2, none⟩) (Nat.le_refl _) (.string ⟨q1.toArray⟩)
          generalize hW : (((w5.setCell ⟨w.heap.size, 0, none⟩ (.bool true)).setCell ⟨w.heap.size, 1, none⟩ (.string ⟨(r.take n).toArray⟩)).setCell ⟨w.heap.size, 2, none⟩ (.string ⟨q1.toArray⟩)) = W at *
          obtain ⟨k0, k1, k2⟩ := box3_cells hx
          refine bodyPost_ret (v := spanV (some (r.take n, q1))) ?_ rfl ⟨rfl, hB⟩
          rw [results_cell_tmp rfl]
          go_simp
          rfl

end Go.Proofs.YtkcmhdkhdjmjeaaGreatDoor

/-
  Package block: all, at every depth; Parse: the blocks of lines, a list of its own.
-/
import Derived.Test.YtoleoigpijgboaaDoorBlkI
namespace Go.Proofs.YtoleoigpijgboaaDoor
open Go.RowKit
set_option linter.unusedSimpArgs false
set_option linter.unusedVariables false
set_option maxRecDepth 100000

def FirstOk (d : Int) (f : List (List UInt8) → List Blk × Nat) (K : Nat) : Prop := ∀ (B b : Nat) (v : Value) (L : List Blk) (b9 off cap : Nat) (s : List UInt8) (r : List (List UInt8)) (w : World), B ≤ w.heap.size → FinIs w B b v L → Lns B w (some ⟨b9, off, none⟩) cap (s :: r) → Few (s :: r) → L.length + K * (r.length + 1) ≤ 50000000 →
    Calls Tryd.prog 28 #[.pointer (some ⟨b, 0, none⟩), .int .i64 d, .slice (some ⟨b9, off, none⟩) (r.length + 1) cap] w fun e w' => e = .returned (.int .i64 (f (s :: r)).2) ∧ (∃ v', FinIs w' B b v' (L ++ (f (s :: r)).1)) ∧ Kpt B w w'
theorem FunOk.more {d : Int} {f : List (List UInt8) → List Blk} {K K' : Nat} (h : FunOk d f K) (hK : K ≤ K') : FunOk d f K' := fun B b v L A cap ls w h1 h2 h3 h4 h5 =>
  h B b v L A cap ls w h1 h2 h3 h4 (by have := Nat.mul_le_mul_right ls.length hK; omega)
def sliceLen : Value → Nat
  | .slice _ n _ => n
  | _ => 0

def AllRel (B b : Nat) (L : List Blk) (f : List (List UInt8) → List Blk × Nat) (K : Nat) (ls : List (List UInt8)) (w : World) (z : Value) (wr : World) : Prop :=
  ∃ (A : Option Addr) (cap : Nat) (l : List (List UInt8)) (v : Value) (D : List Blk), z = .slice A l.length cap ∧ Lns B wr A cap l ∧ Few l ∧ FinIs wr B b v (L ++ D) ∧ loopL f ls.length ls = D ++ loopL f l.length l ∧ D.length + K * l.length ≤ K * ls.length ∧ Kpt B w wr

set_option maxHeartbeats 4000000 in
theorem all_of (d : Int) (f : List (List UInt8) → List Blk × Nat) (K : Nat) (hf1 : ∀ l, l ≠ [] → 1 ≤ (f l).2 ∧ (f l).2 ≤ l.length) (hf2 : ∀ l, l ≠ [] → (f l).1.length ≤ K * (f l).2) (H : FirstOk d f K) : FunOk d (fun l => loopL f l.length l) K := by
  intro B b v L A cap ls w hB h hl hf hn
  obtain ⟨F, hF⟩ : ∃ F, loopL f ls.length ls = F := ⟨_, rfl⟩
  dsimp only
  rw [hF]
  have HF0 := Lib.hid hF
  have HNN := Lib.hid hn
  have hcl := hl.row.strs_le
  have HH := Lib.hid h
  have HL := Lib.hid hl
  have HF := Lib.hid hf
  have H1 := Lib.hid hf1
  have H2 := Lib.hid hf2
  have H3 := Lib.hid H
  clear hF hn h hl hf hf1 hf2 H
  go_enter Tryd.func23, Tryd.ntmps23
  go_wp2_with fail
  go_loopw [2] (fun z wr => AllRel B b L f K ls w z wr) (fun z _ => sliceLen z)
  case atStart => exact ⟨A, cap, ls, v, [], rfl, HL.out, HF.out, by rw [List.append_nil]; exact HH.out, rfl, by simp, Kpt.refl B w⟩
  case round =>
    obtain ⟨A1, c1, l, v1, D, rfl, hl1, hf1, hfin, hst, hcn, hk⟩ := hrel
    have hss := hk.size
    cases l with
    | nil =>
      simp only [loopL, List.length_nil, List.append_nil] at hst
      have HS := Lib.hid hst
      have HFin := Lib.hid hfin
      have HK := Lib.hid hk
      clear hst hfin hk hl1 hf1 hcn
      go_wp2
      go_end0
      exact ⟨rfl, v1, by rw [← HF0.out, HS.out]; exact HFin.out, HK.out⟩
    | cons s r =>
      have hcl1 := hl1.row.strs_le
      have hlen1 := hf1.len
      rw [List.length_cons] at hcl1 hlen1
      obtain ⟨b9, off, hA, _, _⟩ := hl1.row.cellAt (k := 0) (by simp)
      subst hA
      have hp := H1.out (s :: r) (by simp)
      have hct := H2.out (s :: r) (by simp)
      have hstep := loopL_step f (fun l h => (H1.out l h).1) (s :: r) (by simp)
      rw [hstep] at hst
      have hmul : K * (s :: r).length = K * (f (s :: r)).2 + K * ((s :: r).drop (f (s :: r)).2).length := by
        rw [← Nat.mul_add, List.length_drop]
        congr 1
        omega
      have cf := H3.out B b v1 (L ++ D) b9 off c1 s r wr (by omega) hfin hl1 hf1 (by
        rw [List.length_append]
        have := HNN.out
        rw [List.length_cons] at hcn
        omega)
      have HD := Lib.hid (show D.length + (f (s :: r)).1.length + K * ((s :: r).drop (f (s :: r)).2).length ≤ K * ls.length from by omega)
      have hld : ((s :: r).drop (f (s :: r)).2).length = r.length + 1 - (f (s :: r)).2 := by rw [List.length_drop, List.length_cons]
      have HL1 := Lib.hid hl1
      have HF1 := Lib.hid hf1
      have HS := Lib.hid hst
      have HK := Lib.hid hk
      rw [List.length_cons] at hp
      have HLD := Lib.hid hld
      generalize hP : f (s :: r) = P at *
      obtain ⟨P1, k⟩ := P
      dsimp only at *
      have hsl := fun W => slice_low (some ⟨b9, off, none⟩) (r.length + 1) c1 k (by omega) W
      have hp1 := hp.1
      have hp2 := hp.2
      clear hP hst hk hl1 hf1 hfin hct hmul hstep hcn hld hp
      go_wp2_with fail
      refine cf.mono ?_
      rintro e w2 ⟨rfl, ⟨v2, hf2⟩, hk2⟩
      have HF2 := Lib.hid hf2
      have HK2 := Lib.hid hk2
      clear hf2 hk2 cf
      go_wp2
      go_roundw
      case rel =>
        refine ⟨dropA (some ⟨b9, off, none⟩) c1 k, c1 - k, (s :: r).drop k, v2, D ++ P1, by rw [HLD.out], (HL1.out.drop (by rw [List.length_cons]; exact hp2)).kept HK2.out, HF1.out.drop k, ?_, ?_, ?_, HK.out.trans HK2.out⟩
        · rw [← List.append_assoc]; exact HF2.out
        · rw [HS.out, List.append_assoc]
        · rw [List.length_append]; exact HD.out
      case measure =>
        simp [sliceLen]
        omega

theorem first_ok (d : Int) (hd0 : 0 ≤ d) (hd : d ≤ 100) (q i : List (List UInt8) → List Blk) (K : Nat) (hK : K ≤ 1000) (hq : d < 12 → FunOk (d + 1) q K) (hi : d < 11 → FunOk (d + 2) i K) (hiK : ∀ l, (i l).length ≤ K * l.length) : FirstOk d (firstL d q i) (K + 2) :=
  fun B b v L b9 off cap s r w hB h hl hf hn => first_core d hd0 hd q i K hK hq hi hiK B b v L b9 off cap s r w hB h hl hf hn
theorem allL_eq (m : Nat) : (fun l => loopL (firstM m) l.length l) = allL m := by
  funext l
  exact (allL_loop m l).symm
theorem all_ok : ∀ m : Nat, m ≤ 12 → FunOk (12 - (m : Int)) (allL m) (2 * m + 2)
  | 0, _ => by
    have h : FirstOk 12 (firstM 0) (0 + 2) := first_ok 12 (by omega) (by omega) _ _ 0 (by omega) (fun h => absurd h (by omega)) (fun h => absurd h (by omega)) (fun _ => by simp)
    have := all_of 12 (firstM 0) 2 (firstM_pos 0) (firstM_count 0).2 h
    rw [allL_eq] at this
    rw [show (12 : Int) - ((0 : Nat) : Int) = 12 from by omega]
    exact this
  | 1, _ => by
    have h0 := all_ok 0 (by omega)
    rw [show (12 : Int) - ((0 : Nat) : Int) = 11 + 1 from by omega] at h0
    have h : FirstOk 11 (firstM 1) (2 + 2) := first_ok 11 (by omega) (by omega) _ _ 2 (by omega) (fun _ => h0) (fun h => absurd h (by omega)) (fun _ => by simp)
    have := all_of 11 (firstM 1) 4 (firstM_pos 1) (firstM_count 1).2 h
    rw [allL_eq] at this
    rw [show (12 : Int) - ((1 : Nat) : Int) = 11 from by omega]
    exact this
  | m + 2, hm => by
    have h1 := all_ok (m + 1) (by omega)
    have h0 := (all_ok m (by omega)).more (show 2 * m + 2 ≤ 2 * (m + 1) + 2 by omega)
    rw [show (12 : Int) - ((m + 1 : Nat) : Int) = (10 - (m : Int)) + 1 from by omega] at h1
    rw [show (12 : Int) - (m : Int) = (10 - (m : Int)) + 2 from by omega] at h0
    have h : FirstOk (10 - (m : Int)) (firstM (m + 2)) (2 * (m + 1) + 2 + 2) := first_ok (10 - (m : Int)) (by omega) (by omega) _ _ (2 * (m + 1) + 2) (by omega) (fun _ => h1) (fun _ => h0) (fun l => by
      have h3 := (firstM_count m).1 l
      have h4 := Nat.mul_le_mul_right l.length (show 2 * m + 2 ≤ 2 * (m + 1) + 2 by omega)
      omega)
    have := all_of (10 - (m : Int)) (firstM (m + 2)) (2 * (m + 2) + 2) (firstM_pos (m + 2)) (firstM_count (m + 2)).2 h
    rw [allL_eq] at this
    rw [show (12 : Int) - ((m + 2 : Nat) : Int) = 10 - (m : Int) from by omega]
    exact this

set_option maxHeartbeats 4000000 in
/-- Parse: a list of its own, that holds the lines' blocks. -/
theorem bparse_any (A : Option Addr) (cap : Nat) (ls : List (List UInt8)) (w : World) (hrow : RowOf w A cap (strs ls)) (hf : Few ls) :
    Calls Tryd.prog 17 #[.slice A ls.length cap] w fun e w' => ∃ v', e = .returned v' ∧ w'.ownsRow w.heap.size 28 6 v' (parseB ls).length (blksC (parseB ls)) ∧ Below w.heap.size w w' := by
  have hcl := hrow.strs_le
  have hlen := hf.len
  have b0 : Below w.heap.size w (w.alloc (.cells #[.slice none 0 0] 44)) := (Below.refl _ w).alloc (Nat.le_refl _) _
  have hs0 := alloc_size w (.cells #[.slice none 0 0] 44)
  have hfi : FinIs (w.alloc (.cells #[.slice none 0 0] 44)) w.heap.size w.heap.size (.slice none 0 0) [] := ⟨heap_alloc_new w _, World.ownsRow_nil _ _ _ _, Nat.le_refl _⟩
  have hl : Lns w.heap.size (w.alloc (.cells #[.slice none 0 0] 44)) A cap ls := by
    refine ⟨hrow.below b0, ?_⟩
    by_cases h0 : ls = []
    · exact Or.inl h0
    · obtain ⟨b, off, e, hb, _⟩ := hrow.at (fun e => h0 (List.map_eq_nil_iff.1 e))
      exact Or.inr ⟨b, off, e, Or.inl hb⟩
  have ca := all_ok 12 (by omega) w.heap.size w.heap.size (.slice none 0 0) [] A cap ls _ (by rw [hs0]; omega) hfi hl hf (by
    have := Nat.mul_le_mul_left (2 * 12 + 2) hlen
    simp only [List.length_nil]
    omega)
  rw [show (12 : Int) - ((12 : Nat) : Int) = 0 from by omega, List.nil_append, show allL 12 ls = parseB ls from rfl] at ca
  have HB0 := Lib.hid b0
  clear hfi hl b0 hs0 hf
  go_enter Tryd.func17, Tryd.ntmps17
  go_wp2_with fail
  refine ca.mono ?_
  rintro e w2 ⟨rfl, v2, hf2, hk2⟩
  have hc0 := hf2.c0
  have HF2 := Lib.hid hf2
  have HK2 := Lib.hid hk2
  clear hf2 hk2 ca
  go_wp2
  go_ret
  exact ⟨v2, rfl, HF2.out.row, HB0.out.trans HK2.out.below⟩

end Go.Proofs.YtoleoigpijgboaaDoor

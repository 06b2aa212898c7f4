/-
  Package policy: Right: what it answers, in plain words.
-/
import Derived.Test.YtobmmbhmaaednaaPolA
namespace Go.Proofs.Ytobmmbhmaaednaa
open Go.RowKit
set_option linter.unusedSimpArgs false
set_option linter.unusedVariables false

/-- The slice value at B (capacity 'cap') holds just these pairs, two cells each. -/
def PairsAt (w : World) (B : Option Addr) (cap : Nat) (ps : List (Int × Int)) : Prop :=
  ps.length ≤ cap ∧ cap ≤ maxLen ∧ (ps = [] ∨ ∃ b off, B = some ⟨b, off, none⟩ ∧ b < w.heap.size ∧
    ∀ i (h : i < ps.length), w.cell? ⟨b, off + i * 2, none⟩ = some (.int .i64 ps[i].1) ∧ w.cell? ⟨b, off + i * 2 + 1, none⟩ = some (.int .i64 ps[i].2))
theorem PairsAt.below {w w' : World} {B : Option Addr} {cap : Nat} {ps : List (Int × Int)} (h : PairsAt w B cap ps) (hb : Below w.heap.size w w') : PairsAt w' B cap ps := by
  obtain ⟨h1, h2, h3⟩ := h
  refine ⟨h1, h2, ?_⟩
  rcases h3 with h3 | ⟨b, off, e, hlt, hc⟩
  · exact Or.inl h3
  · refine Or.inr ⟨b, off, e, Nat.lt_of_lt_of_le hlt hb.size, fun i hi => ?_⟩
    rw [hb.cell (p := ⟨b, off + i * 2, none⟩) hlt, hb.cell (p := ⟨b, off + i * 2 + 1, none⟩) hlt]
    exact hc i hi
theorem PairsAt.at {w : World} {B : Option Addr} {cap : Nat} {ps : List (Int × Int)} (h : PairsAt w B cap ps) {k : Nat} (hk : k < ps.length) :
    ∃ b off, B = some ⟨b, off, none⟩ ∧ b < w.heap.size ∧ w.cell? ⟨b, off + k * 2, none⟩ = some (.int .i64 ps[k].1) ∧ w.cell? ⟨b, off + k * 2 + 1, none⟩ = some (.int .i64 ps[k].2) := by
  rcases h.2.2 with h3 | ⟨b, off, e, hlt, hc⟩
  · rw [h3] at hk; simp at hk
  · exact ⟨b, off, e, hlt, (hc k hk).1, (hc k hk).2⟩
theorem PairsAt.alloc {w : World} {B : Option Addr} {cap : Nat} {ps : List (Int × Int)} (h : PairsAt w B cap ps) (o : Obj) : PairsAt (w.alloc o) B cap ps := h.below ((Below.refl _ w).alloc (Nat.le_refl _) o)

/-- A policy's two cells in a block. -/
theorem box_cell (w : World) (a b : Value) (t : TypeId) : (w.alloc (.cells #[a, b] t)).cell? ⟨w.heap.size, 0, none⟩ = some a ∧ (w.alloc (.cells #[a, b] t)).cell? ⟨w.heap.size, 1, none⟩ = some b := by
  constructor <;> rw [cell_of_row _ _ _ #[a, b] t (0, 0) (heap_alloc_new w _)] <;> rfl

def R1 (ns : List (List UInt8)) (w1 : World) (i : Value) (wr : World) : Prop :=
  ∃ k : Nat, i = .int .i64 k ∧ k ≤ ns.length ∧ (∀ j, j < k → okAt ns j = true) ∧ Below w1.heap.size w1 wr
def R2 (c : Nat) (ps : List (Int × Int)) (w1 : World) (i : Value) (wr : World) : Prop :=
  ∃ k : Nat, i = .int .i64 k ∧ k ≤ ps.length ∧ (∀ p ∈ ps.take k, pairOk p.1 p.2 c = true) ∧ Below w1.heap.size w1 wr

set_option maxHeartbeats 2000000 in
theorem right_any (A : Option Addr) (ca : Nat) (B : Option Addr) (cb : Nat) (st : St) (w : World) (hrow : RowOf w A ca (strs st.1)) (hpr : PairsAt w B cb st.2) (hz : ∀ y ∈ st.1, y.length ≤ 9223372036854775807) :
    Calls Try.prog 7 #[.agg #[.slice A st.1.length ca, .slice B st.2.length cb]] w fun e w' => e = .returned (.bool (rightL st)) ∧ Below w.heap.size w w' := by
  obtain ⟨ns, ps⟩ := st
  simp only at *
  have hc1 := hrow.1
  have hc2 := hrow.2.1
  rw [strs_length] at hc1
  have hd1 := hpr.1
  have hd2 := hpr.2.1
  unfold maxLen at hc2 hd2
  have HZ := Lib.hid hz
  clear hz
  by_cases hlo : ns.length < 1 ∨ 64 < ns.length
  · have HF := Lib.hid (show rightL (ns, ps) = false from by
      rw [Bool.eq_false_iff]; intro e
      have := ((rightL_iff _).1 e).1
      simp only at this
      omega)
    rcases hlo with hlo | hlo
    all_goals
      go_enter Try.func7, Try.ntmps7
      go_wp2
      go_ret
      exact ⟨ret_bool HF.out.symm, (Below.refl _ w).alloc (Nat.le_refl _) _⟩
  · have h1 : 1 ≤ ns.length := by omega
    have h2 : ns.length ≤ 64 := by omega
    clear hlo
    have hbx := box_cell w (.slice A ns.length ca) (.slice B ps.length cb) 25
    have hb0 : Below w.heap.size w (w.alloc (.cells #[.slice A ns.length ca, .slice B ps.length cb] 25)) := (Below.refl _ w).alloc (Nat.le_refl _) _
    have hs0 := alloc_size w (.cells #[.slice A ns.length ca, .slice B ps.length cb] 25)
    go_enter Try.func7, Try.ntmps7
    go_wp2_with fail
    go_loopw [20] (fun i wr => R1 ns (w.alloc (.cells #[.slice A ns.length ca, .slice B ps.length cb] 25)) i wr) (fun i wr => ns.length - (intOf i).toNat)
    case atStart => exact ⟨0, rfl, Nat.zero_le _, fun j hj => absurd hj (Nat.not_lt_zero _), Below.refl _ _⟩
    case round =>
      obtain ⟨k, rfl, hk, hall, hbw⟩ := hrel
      have hlt : w.heap.size < (w.alloc (.cells #[.slice A ns.length ca, .slice B ps.length cb] 25)).heap.size := by omega
      have hx0 := (hbw.cell (p := ⟨w.heap.size, 0, none⟩) hlt).trans hbx.1
      have hx1 := (hbw.cell (p := ⟨w.heap.size, 1, none⟩) hlt).trans hbx.2
      have hbt := hb0.then hbw
      have hrow2 := hrow.below hbt
      have hpr2 := hpr.below hbt
      have HA := Lib.hid hall
      have HB := Lib.hid hbw
      have HT := Lib.hid hbt
      clear hall hbw hbt
      by_cases hp : k < ns.length
      · obtain ⟨b, off, rfl, hb, hc⟩ := hrow2.cellAt hp
        have hnz := HZ.out ns[k] (List.getElem_mem hp)
        rw [← str_size] at hnz
        have cn := fun w1 => isName_any ⟨ns[k].toArray⟩ w1 hnz
        rw [show (⟨ns[k].toArray⟩ : ByteArray).data.toList = ns[k] from rfl] at cn
        have ci := fun w1 h => index_any (some ⟨b, off, none⟩) ca (.slice B ps.length cb) ns ⟨ns[k].toArray⟩ w1 h
        rw [show (⟨ns[k].toArray⟩ : ByteArray).data.toList = ns[k] from rfl] at ci
        cases hnm : nmL ns[k] with
        | false =>
          rw [hnm] at cn
          have HF := Lib.hid (show rightL (ns, ps) = false from by
            rw [Bool.eq_false_iff]; intro e
            have h3 := (rightN_iff _).1 ((rightL_iff _).1 e).2.1 k hp
            have h4 := ((okAt_iff ns k hp).1 h3).1
            rw [hnm] at h4; cases h4)
          clear hnm
          go_wp2_with fail
          refine (cn _).mono ?_
          rintro e w2 ⟨rfl, b2⟩
          go_wp2
          go_ret
          exact ⟨ret_bool HF.out.symm, HT.out.then b2⟩
        | true =>
          rw [hnm] at cn
          go_wp2_with fail
          refine (cn _).mono ?_
          rintro e w2 ⟨rfl, b2⟩
          have hx02 := (b2.cell (p := ⟨w.heap.size, 0, none⟩) (World.block_lt_of_cell? _ _ hx0)).trans hx0
          have hx12 := (b2.cell (p := ⟨w.heap.size, 1, none⟩) (World.block_lt_of_cell? _ _ hx1)).trans hx1
          have hrow3 := hrow2.below b2
          go_wp2_with fail
          by_cases hix : idxL ns ns[k] = k
          · rw [hix] at ci
            have HO := Lib.hid ((okAt_iff ns k hp).2 ⟨hnm, hix⟩)
            clear hix hnm
            refine (ci _ hrow3).mono ?_
            rintro e w3 ⟨rfl, b3⟩
            go_wp2
            go_roundw
            case rel =>
              refine ⟨k + 1, by go_num, by omega, fun j hj => ?_, (HB.out.then b2).then b3⟩
              by_cases e : j = k
              · subst e; exact HO.out
              · exact HA.out j (by omega)
            case measure => simp [intOf]; omega
          · have HF := Lib.hid (show rightL (ns, ps) = false from by
              rw [Bool.eq_false_iff]; intro e
              have h3 := (rightN_iff _).1 ((rightL_iff _).1 e).2.1 k hp
              exact hix ((okAt_iff ns k hp).1 h3).2)
            have fx : (idxL ns ns[k] != (k : Int)) = true := by simpa using hix
            generalize idxL ns ns[k] = z at *
            clear hix hnm
            refine (ci _ hrow3).mono ?_
            rintro e w3 ⟨rfl, b3⟩
            go_wp2
            go_ret
            exact ⟨ret_bool HF.out.symm, (HT.out.then b2).then b3⟩
      · obtain rfl : k = ns.length := by omega
        have HN := Lib.hid ((rightN_iff ns).2 HA.out)
        go_wp2_with fail
        go_loopw [39] (fun i w3 => R2 ns.length ps wr i w3) (fun i _ => ps.length - (intOf i).toNat)
        case atStart => exact ⟨0, rfl, Nat.zero_le _, fun p hp => by simp at hp, Below.refl _ _⟩
        case round =>
          obtain ⟨m, rfl, hm, hall2, hbw2⟩ := hrel
          have hpr3 := hpr2.below hbw2
          have HB2 := Lib.hid hbw2
          have HA2 := Lib.hid hall2
          clear hbw2 hall2
          by_cases hp2 : m < ps.length
          · obtain ⟨b, off, rfl, hb, hc, hc'⟩ := hpr3.at hp2
            have cp := fun w1 => rightPair_any ps[m].1 ps[m].2 ns.length w1
            have HT2 := Lib.hid (List.take_succ_eq_append_getElem hp2)
            have HM := Lib.hid (List.getElem_mem hp2)
            generalize ps[m] = p at *
            obtain ⟨pa, pb⟩ := p
            simp only at *
            cases hpo : pairOk pa pb ns.length with
            | false =>
              rw [hpo] at cp
              have HF := Lib.hid (show rightL (ns, ps) = false from by
                rw [Bool.eq_false_iff]; intro e
                have h3 := (rightP_iff _ _).1 ((rightL_iff _).1 e).2.2 _ HM.out
                simp only at h3
                rw [hpo] at h3; cases h3)
              clear hpo
              go_wp2_with fail
              refine (cp _).mono ?_
              rintro e w4 ⟨rfl, b4⟩
              go_wp2
              go_ret
              exact ⟨ret_bool HF.out.symm, ((HT.out.then HB2.out).then ((Below.refl _ _).alloc (Nat.le_refl _) _)).then b4⟩
            | true =>
              rw [hpo] at cp
              have HP := Lib.hid hpo
              clear hpo
              go_wp2_with fail
              refine (cp _).mono ?_
              rintro e w4 ⟨rfl, b4⟩
              go_wp2
              go_roundw
              case rel =>
                refine ⟨m + 1, by go_num, by omega, fun q hq => ?_, (HB2.out.then ((Below.refl _ _).alloc (Nat.le_refl _) _)).then b4⟩
                rw [HT2.out, List.mem_append, List.mem_singleton] at hq
                rcases hq with hq | rfl
                · exact HA2.out q hq
                · exact HP.out
              case measure => simp [intOf]; omega
          · obtain rfl : m = ps.length := by omega
            have HF := Lib.hid (show rightL (ns, ps) = true from by
              have h3 := HA2.out
              rw [List.take_length] at h3
              exact (rightL_iff _).2 ⟨⟨h1, h2⟩, HN.out, (rightP_iff _ _).2 h3⟩)
            go_wp2
            go_ret
            exact ⟨ret_bool HF.out.symm, HT.out.then HB2.out⟩

end Go.Proofs.Ytobmmbhmaaednaa

/-
  Package policy: Write: what it answers, in plain words.
-/
import Derived.Test.YtobmmbhmaaednaaPolF
namespace Go.Proofs.Ytobmmbhmaaednaa
open Go.RowKit
set_option linter.unusedSimpArgs false
set_option linter.unusedVariables false

def writeS (st : St) : List UInt8 := if rightL st then joinL (wLines st) else []
theorem joinL_bound (c : Nat) : ∀ ls : List (List UInt8), (∀ y ∈ ls, y.length ≤ c) → (joinL ls).length ≤ (c + 1) * ls.length
  | [], _ => by simp [joinL]
  | l :: ls, h => by
    have ih := joinL_bound c ls (fun y hy => h y (by simp [hy]))
    have := h l (by simp)
    simp only [joinL, List.length_append, List.length_cons]
    rw [Nat.mul_add]
    omega
theorem wLines_len (st : St) (h : rightL st = true) : (∀ y ∈ wLines st, y.length ≤ 43) ∧ (wLines st).length = st.1.length + st.2.length := by
  obtain ⟨_, h3, h4⟩ := (rightL_iff st).1 h
  refine ⟨fun y hy => ?_, by simp [wLines]⟩
  rcases List.mem_append.1 hy with hy | hy
  · obtain ⟨x, hx, rfl⟩ := List.mem_map.1 hy
    obtain ⟨k, hk, rfl⟩ := List.mem_iff_getElem.1 hx
    have := ((nmL_iff _).1 ((okAt_iff st.1 k hk).1 ((rightN_iff _).1 h3 k hk)).1).2.2
    simp [lvl]; omega
  · obtain ⟨p, hp, rfl⟩ := List.mem_map.1 hy
    have hb := (pairOk_iff _ _ _).1 ((rightP_iff _ _).1 h4 p hp)
    have h5 := ((nmL_iff _).1 (nmAt_name h3 hb.1.1 hb.1.2).1).2.2
    have h6 := ((nmL_iff _).1 (nmAt_name h3 hb.2.1.1 hb.2.1.2).1).2.2
    simp [prLine, ltS]; omega
theorem cell_alloc {w : World} {a : Addr} {v : Value} (h : w.cell? a = some v) (o : Obj) : (w.alloc o).cell? a = some v :=
  (((Below.refl _ w).alloc (Nat.le_refl _) o).cell (World.block_lt_of_cell? _ _ h)).trans h
theorem cat_str (a b : List UInt8) : (⟨a.toArray⟩ : ByteArray) ++ ⟨b.toArray⟩ = ⟨(a ++ b).toArray⟩ := by rw [str_append]
theorem ret_strbool {a b : ByteArray} {c d : Bool} (h : a = b) (k : c = d) : Ending.returned (.tuple #[.string a, .bool c]) = .returned (.tuple #[.string b, .bool d]) := by rw [h, k]

def W1Rel (ns : List (List UInt8)) (w1 : World) (v i : Value) (wr : World) : Prop :=
  ∃ k : Nat, i = .int .i64 k ∧ k ≤ ns.length ∧ wr.ownsRow w1.heap.size 9 1 v k (strs ((ns.map (lvl ++ ·)).take k)) ∧ Below w1.heap.size w1 wr
def W2Rel (ns : List (List UInt8)) (ps : List (Int × Int)) (w1 : World) (v i : Value) (wr : World) : Prop :=
  ∃ k : Nat, i = .int .i64 k ∧ k ≤ ps.length ∧ wr.ownsRow w1.heap.size 9 1 v (ns.length + k) (strs (ns.map (lvl ++ ·) ++ (ps.map (prLine ns)).take k)) ∧ Below w1.heap.size w1 wr

set_option maxHeartbeats 4000000 in
theorem write_any (A : Option Addr) (ca : Nat) (B : Option Addr) (cb : Nat) (st : St) (w : World) (hrow : RowOf w A ca (strs st.1)) (hpr : PairsAt w B cb st.2) (hz : ∀ y ∈ st.1, y.length ≤ 9223372036854775807) (hm : st.2.length ≤ 1000000) :
    Calls Try.prog 9 #[.agg #[.slice A st.1.length ca, .slice B st.2.length cb]] w fun e w' => e = .returned (.tuple #[.string ⟨(writeS st).toArray⟩, .bool (rightL st)]) ∧ Below w.heap.size w w' := by
  obtain ⟨i0, hi, hz0, hz1, hz2⟩ := info_parts infoString
  have cr := fun w1 h1 h2 => right_any A ca B cb st w1 h1 h2 hz
  obtain ⟨ns, ps⟩ := st
  simp only at *
  have hc1 := hrow.1
  have hc2 := hrow.2.1
  rw [strs_length] at hc1
  have hd1 := hpr.1
  have hd2 := hpr.2.1
  unfold maxLen at hc2 hd2
  have hbx := box_cell w (.slice A ns.length ca) (.slice B ps.length cb) 25
  have hb0 : Below w.heap.size w (w.alloc (.cells #[.slice A ns.length ca, .slice B ps.length cb] 25)) := (Below.refl _ w).alloc (Nat.le_refl _) _
  have HB0 := Lib.hid hb0
  have hr0 := hrow.below hb0
  have hp0 := hpr.below hb0
  clear hz hb0
  cases hR : rightL (ns, ps) with
  | false =>
    have HW := Lib.hid (show writeS (ns, ps) = [] from if_neg (by simp [hR]))
    rw [hR] at cr
    clear hR
    go_enter Try.func9, Try.ntmps9
    go_wp2_with fail
    refine (cr _ hr0 hp0).mono ?_
    rintro e w1 ⟨rfl, b1⟩
    go_wp2
    go_ret2
    exact ⟨ret_strbool (by rw [HW.out]) rfl, HB0.out.then b1⟩
  | true =>
    have HW := Lib.hid (show writeS (ns, ps) = joinL (wLines (ns, ps)) from by unfold writeS; rw [if_pos hR])
    have HL := Lib.hid (wLines_len (ns, ps) hR)
    have hRR := (rightL_iff _).1 hR
    have HRN := Lib.hid hRR.2.1
    have HRP := Lib.hid hRR.2.2
    have hn64 := hRR.1.2
    simp only at hn64
    rw [hR] at cr
    clear hR hRR
    go_enter Try.func9, Try.ntmps9
    go_wp2_with fail
    refine (cr _ hr0 hp0).mono ?_
    rintro e w1 ⟨rfl, b1⟩
    have hs1 := (HB0.out.then b1).size
    have hx0 := (b1.cell (p := ⟨w.heap.size, 0, none⟩) (World.block_lt_of_cell? _ _ hbx.1)).trans hbx.1
    have hx1 := (b1.cell (p := ⟨w.heap.size, 1, none⟩) (World.block_lt_of_cell? _ _ hbx.2)).trans hbx.2
    have hblt := World.block_lt_of_cell? _ _ hx0
    have hrow1 := hr0.below b1
    have hpr1 := hp0.below b1
    have HB1 := Lib.hid (HB0.out.then b1)
    clear hr0 hp0 b1 hbx cr
    go_wp2_with fail
    go_loopw [4, 15] (fun v i wr => W1Rel ns w1 v i wr) (fun _ i _ => ns.length - (intOf i).toNat)
    case atStart => exact ⟨0, rfl, Nat.zero_le _, World.ownsRow_nil _ _ _ _, Below.refl _ _⟩
    case round =>
      obtain ⟨k, rfl, hk, hown, hbw⟩ := hrel
      have hsz := hbw.size
      have hx0r := (hbw.cell (p := ⟨w.heap.size, 0, none⟩) hblt).trans hx0
      have hx1r := (hbw.cell (p := ⟨w.heap.size, 1, none⟩) hblt).trans hx1
      by_cases hp : k < ns.length
      · obtain ⟨b, off, rfl, hb, hc⟩ := (hrow1.below hbw).cellAt hp
        have hnz := ((nmL_iff _).1 ((okAt_iff ns k hp).1 ((rightN_iff _).1 HRN.out k hp)).1).2.2
        have HU := Lib.hid (show strs ((ns.map (lvl ++ ·)).take k) ++ [Value.string ((⟨#[108, 101, 118, 101, 108, 32]⟩ : ByteArray) ++ ⟨ns[k].toArray⟩)] = strs ((ns.map (lvl ++ ·)).take (k + 1)) from by
          rw [show (⟨#[108, 101, 118, 101, 108, 32]⟩ : ByteArray) = ⟨lvl.toArray⟩ from rfl, cat_str, ← strs_one, ← strs_append, List.take_succ_eq_append_getElem (show k < (ns.map (lvl ++ ·)).length by simpa using hp)]; simp)
        have hXz : (⟨ns[k].toArray⟩ : ByteArray).size ≤ 20 := by rw [str_size]; exact hnz
        generalize (⟨ns[k].toArray⟩ : ByteArray) = X at *
        have hcat := fun W => run_string_add_sum (P := Try.prog) W ⟨#[108, 101, 118, 101, 108, 32]⟩ X (by show 6 + _ ≤ _; omega)
        clear hnz
        go_wp2_with (at_builtin; refine wpList_append_own _ rfl _ _ 22 rfl w1.heap.size 9 i0 (.string ByteArray.empty) 1 16 Try.underlying22 hi hz0 hz1 hz2 rfl (by decide) _ _ _ rfl (hown.alloc _) ⟨wr.heap.size, 0, none⟩ 1 1 [.string ((⟨#[108, 101, 118, 101, 108, 32]⟩ : ByteArray) ++ X)] rfl rfl ?c1 ?c2 ?c3 ?c4 ?c5 ?_)
        case c2 => first | rfl | (intro u hu; simp at hu; subst hu; rfl)
        case c3 => unfold maxLen; omega
        case c4 => omega
        case c5 => first | omega | (simp; omega)
        · intro v' w2 hown' hgrow _
          have hbw3 := (hbw.alloc (by omega) _).grown hgrow (by simp; omega) (fun k hk => (hown.lt k hk).1)
          rw [HU.out] at hown'
          have HO := Lib.hid hown'
          clear hown' hgrow
          go_wp2
          go_roundw
          case rel => exact ⟨k + 1, by go_num, by omega, HO.out, hbw3⟩
          case measure => simp [intOf]; omega
      · obtain rfl : k = ns.length := by omega
        rw [List.take_of_length_le (by simp)] at hown
        go_wp2_with fail
        go_loopw [4, 28] (fun v i wr' => W2Rel ns ps w1 v i wr') (fun _ i _ => ps.length - (intOf i).toNat)
        case atStart => exact ⟨0, rfl, Nat.zero_le _, by rw [List.take_zero, List.append_nil]; exact hown, hbw⟩
        case round =>
          clear hown hbw hsz
          obtain ⟨m, rfl, hmm, hown, hbw⟩ := hrel
          have hsz := hbw.size
          have hx0w := (hbw.cell (p := ⟨w.heap.size, 0, none⟩) hblt).trans hx0
          have hx1w := (hbw.cell (p := ⟨w.heap.size, 1, none⟩) hblt).trans hx1
          by_cases hp2 : m < ps.length
          · obtain ⟨pg, poff, rfl, hpb, hpc, hpc'⟩ := (hpr1.below hbw).at hp2
            have hok := (pairOk_iff _ _ _).1 ((rightP_iff _ _).1 HRP.out ps[m] (List.getElem_mem hp2))
            obtain ⟨ia, hia⟩ : ∃ ia : Nat, ps[m].1 = ia := ⟨ps[m].1.toNat, by omega⟩
            obtain ⟨ib, hib⟩ : ∃ ib : Nat, ps[m].2 = ib := ⟨ps[m].2.toNat, by omega⟩
            have hial : ia < ns.length := by omega
            have hibl : ib < ns.length := by omega
            rw [hia] at hpc
            rw [hib] at hpc'
            obtain ⟨g, off, rfl, hg, hcA⟩ := (hrow1.below hbw).cellAt hial
            obtain ⟨g', off', e', hg', hcB⟩ := (hrow1.below hbw).cellAt hibl
            cases e'
            have hnA := ((nmL_iff _).1 ((okAt_iff ns ia hial).1 ((rightN_iff _).1 HRN.out ia hial)).1).2.2
            have hnB := ((nmL_iff _).1 ((okAt_iff ns ib hibl).1 ((rightN_iff _).1 HRN.out ib hibl)).1).2.2
            have HU := Lib.hid (show strs (ns.map (lvl ++ ·) ++ (ps.map (prLine ns)).take m) ++ [Value.string (((⟨ns[ia].toArray⟩ : ByteArray) ++ ⟨#[32, 60, 32]⟩) ++ ⟨ns[ib].toArray⟩)] = strs (ns.map (lvl ++ ·) ++ (ps.map (prLine ns)).take (m + 1)) from by
              rw [show (⟨#[32, 60, 32]⟩ : ByteArray) = ⟨ltS.toArray⟩ from rfl, cat_str, cat_str, ← strs_one, ← strs_append, List.take_succ_eq_append_getElem (show m < (ps.map (prLine ns)).length by simpa using hp2), List.append_assoc]
              congr 3
              rw [List.getElem_map]
              show _ = [prLine ns ps[m]]
              unfold prLine nmAt
              rw [hia, hib]
              simp [hial, hibl])
            have hXz : (⟨ns[ia].toArray⟩ : ByteArray).size ≤ 20 := by rw [str_size]; exact hnA
            have hYz : (⟨ns[ib].toArray⟩ : ByteArray).size ≤ 20 := by rw [str_size]; exact hnB
            generalize (⟨ns[ia].toArray⟩ : ByteArray) = X at *
            generalize (⟨ns[ib].toArray⟩ : ByteArray) = Y at *
            have hcat1 := fun W => run_string_add_sum (P := Try.prog) W X ⟨#[32, 60, 32]⟩ (by show _ + 3 ≤ _; omega)
            have hcat2 := fun W => run_string_add_sum (P := Try.prog) W (X ++ ⟨#[32, 60, 32]⟩) Y (by rw [ByteArray.size_append]; show _ + 3 + _ ≤ _; omega)
            clear hok hia hib hnA hnB
            have q3 : Below wr.heap.size wr (wr.alloc (.cells #[.int .i64 ia, .int .i64 ib] 41)) := (Below.refl _ wr).alloc (Nat.le_refl _) _
            have hbx3 := box_cell wr (.int .i64 ia) (.int .i64 ib) 41
            have hx03 := cell_alloc hx0w (.cells #[.int .i64 ia, .int .i64 ib] 41)
            have hA3 := cell_alloc hcA (.cells #[.int .i64 ia, .int .i64 ib] 41)
            have hB3 := cell_alloc hcB (.cells #[.int .i64 ia, .int .i64 ib] 41)
            have hown3 := ownsRow_below hown q3
            have hbw3 := hbw.then q3
            have hsz3 := hbw3.size
            go_wp2_with fail
            generalize wr.alloc (.cells #[.int .i64 ia, .int .i64 ib] 41) = w3 at *
            generalize wr.heap.size = pb at *
            have hS : w3.drew.cell? ⟨w.heap.size, 0, none⟩ = some (.slice (some ⟨g, off, none⟩) ns.length ca) ∧ w3.drew.cell? ⟨pb, 0, none⟩ = some (.int .i64 ia) ∧ w3.drew.cell? ⟨pb, 1, none⟩ = some (.int .i64 ib) ∧ w3.drew.cell? ⟨g, off + ia, none⟩ = some (.string X) ∧ w3.drew.cell? ⟨g, off + ib, none⟩ = some (.string Y) := ⟨hx03, hbx3.1, hbx3.2, hA3, hB3⟩
            have HO3 := Lib.hid hown3
            have HBW3 := Lib.hid hbw3
            clear hbx3 hx03 hA3 hB3 hown3 hbw3
            refine wp_region_N (fun W => W.cell? ⟨w.heap.size, 0, none⟩ = some (.slice (some ⟨g, off, none⟩) ns.length ca) ∧ W.cell? ⟨pb, 0, none⟩ = some (.int .i64 ia) ∧ W.cell? ⟨pb, 1, none⟩ = some (.int .i64 ib) ∧ W.cell? ⟨g, off + ia, none⟩ = some (.string X) ∧ W.cell? ⟨g, off + ib, none⟩ = some (.string Y)) (fun j => decide (j < 16)) (by kernel_rfl) ?_
            refine wpAnyN_take_at 0 32 (v := ?_) rfl rfl (by kernel_rfl) (by kernel_rfl) (by kernel_rfl) (by kernel_rfl) (by kernel_rfl) (fun _ _ _ h => h) (by rfl) ?_ hS ?_
            rotate_left
            · intro w hSw; (try dsimp only at hSw); obtain ⟨s1, s2, s3, s4, s5⟩ := hSw; go_simp; (try with_reducible rfl)
            simp only [Act.put, List.setIfInBounds_toArray, List.set_cons_zero, List.set_cons_succ]
            refine wpAnyN_take_at 1 33 (v := ?_) rfl rfl (by kernel_rfl) (by kernel_rfl) (by kernel_rfl) (by kernel_rfl) (by kernel_rfl) (fun _ _ _ h => h) (by rfl) ?_ hS ?_
            rotate_left
            · intro w hSw; (try dsimp only at hSw); obtain ⟨s1, s2, s3, s4, s5⟩ := hSw; go_simp; (try with_reducible rfl)
            simp only [Act.put, List.setIfInBounds_toArray, List.set_cons_zero, List.set_cons_succ]
            refine wpAnyN_take_at 2 34 (v := ?_) rfl rfl (by kernel_rfl) (by kernel_rfl) (by kernel_rfl) (by kernel_rfl) (by kernel_rfl) (fun _ _ _ h => h) (by rfl) ?_ hS ?_
            rotate_left
            · intro w hSw; (try dsimp only at hSw); obtain ⟨s1, s2, s3, s4, s5⟩ := hSw; go_simp; (try with_reducible rfl)
            simp only [Act.put, List.setIfInBounds_toArray, List.set_cons_zero, List.set_cons_succ]
            refine wpAnyN_take_at 3 35 (v := ?_) rfl rfl (by kernel_rfl) (by kernel_rfl) (by kernel_rfl) (by kernel_rfl) (by kernel_rfl) (fun _ _ _ h => h) (by rfl) ?_ hS ?_
            rotate_left
            · intro w hSw; (try dsimp only at hSw); obtain ⟨s1, s2, s3, s4, s5⟩ := hSw; go_simp; (try with_reducible rfl)
            simp only [Act.put, List.setIfInBounds_toArray, List.set_cons_zero, List.set_cons_succ]
            refine wpAnyN_take_at 4 36 (v := ?_) rfl rfl (by kernel_rfl) (by kernel_rfl) (by kernel_rfl) (by kernel_rfl) (by kernel_rfl) (fun _ _ _ h => h) (by rfl) ?_ hS ?_
            rotate_left
            · intro w hSw; (try dsimp only at hSw); obtain ⟨s1, s2, s3, s4, s5⟩ := hSw; go_simp; (try with_reducible rfl)
            simp only [Act.put, List.setIfInBounds_toArray, List.set_cons_zero, List.set_cons_succ]
            refine wpAnyN_take_at 5 37 (v := ?_) rfl rfl (by kernel_rfl) (by kernel_rfl) (by kernel_rfl) (by kernel_rfl) (by kernel_rfl) (fun _ _ _ h => h) (by rfl) ?_ hS ?_
            rotate_left
            · intro w hSw; (try dsimp only at hSw); obtain ⟨s1, s2, s3, s4, s5⟩ := hSw; go_simp; (try with_reducible rfl)
            simp only [Act.put, List.setIfInBounds_toArray, List.set_cons_zero, List.set_cons_succ]
            refine wpAnyN_take_at 6 38 (v := ?_) rfl rfl (by kernel_rfl) (by kernel_rfl) (by kernel_rfl) (by kernel_rfl) (by kernel_rfl) (fun _ _ _ h => h) (by rfl) ?_ hS ?_
            rotate_left
            · intro w hSw; (try dsimp only at hSw); obtain ⟨s1, s2, s3, s4, s5⟩ := hSw; go_simp; (try with_reducible rfl)
            simp only [Act.put, List.setIfInBounds_toArray, List.set_cons_zero, List.set_cons_succ]
            refine wpAnyN_take_at 7 39 (v := ?_) rfl rfl (by kernel_rfl) (by kernel_rfl) (by kernel_rfl) (by kernel_rfl) (by kernel_rfl) (fun _ _ _ h => h) (by rfl) ?_ hS ?_
            rotate_left
            · intro w hSw; (try dsimp only at hSw); obtain ⟨s1, s2, s3, s4, s5⟩ := hSw; go_simp; (try with_reducible rfl)
            simp only [Act.put, List.setIfInBounds_toArray, List.set_cons_zero, List.set_cons_succ]
            refine wpAnyN_take_at 8 40 (v := ?_) rfl rfl (by kernel_rfl) (by kernel_rfl) (by kernel_rfl) (by kernel_rfl) (by kernel_rfl) (fun _ _ _ h => h) (by rfl) ?_ hS ?_
            rotate_left
            · intro w hSw; (try dsimp only at hSw); obtain ⟨s1, s2, s3, s4, s5⟩ := hSw; go_simp; (try with_reducible rfl)
            simp only [Act.put, List.setIfInBounds_toArray, List.set_cons_zero, List.set_cons_succ]
            refine wpAnyN_take_at 9 41 (v := ?_) rfl rfl (by kernel_rfl) (by kernel_rfl) (by kernel_rfl) (by kernel_rfl) (by kernel_rfl) (fun _ _ _ h => h) (by rfl) ?_ hS ?_
            rotate_left
            · intro w hSw; (try dsimp only at hSw); obtain ⟨s1, s2, s3, s4, s5⟩ := hSw; go_simp; (try with_reducible rfl)
            simp only [Act.put, List.setIfInBounds_toArray, List.set_cons_zero, List.set_cons_succ]
            refine wpAnyN_take_at 10 42 (v := ?_) rfl rfl (by kernel_rfl) (by kernel_rfl) (by kernel_rfl) (by kernel_rfl) (by kernel_rfl) (fun _ _ _ h => h) (by rfl) ?_ hS ?_
            rotate_left
            · intro w hSw; (try dsimp only at hSw); obtain ⟨s1, s2, s3, s4, s5⟩ := hSw; go_simp; (try with_reducible rfl)
            simp only [Act.put, List.setIfInBounds_toArray, List.set_cons_zero, List.set_cons_succ]
            refine wpAnyN_take_at 11 43 (v := ?_) rfl rfl (by kernel_rfl) (by kernel_rfl) (by kernel_rfl) (by kernel_rfl) (by kernel_rfl) (fun _ _ _ h => h) (by rfl) ?_ hS ?_
            rotate_left
            · intro w hSw; (try dsimp only at hSw); obtain ⟨s1, s2, s3, s4, s5⟩ := hSw; go_simp; (try with_reducible rfl)
            simp only [Act.put, List.setIfInBounds_toArray, List.set_cons_zero, List.set_cons_succ]
            refine wpAnyN_take_at 12 44 (v := ?_) rfl rfl (by kernel_rfl) (by kernel_rfl) (by kernel_rfl) (by kernel_rfl) (by kernel_rfl) (fun _ _ _ h => h) (by rfl) ?_ hS ?_
            rotate_left
            · intro w hSw; (try dsimp only at hSw); obtain ⟨s1, s2, s3, s4, s5⟩ := hSw; go_simp; (try with_reducible rfl)
            simp only [Act.put, List.setIfInBounds_toArray, List.set_cons_zero, List.set_cons_succ]
            refine wpAnyN_take_at 13 45 (v := ?_) rfl rfl (by kernel_rfl) (by kernel_rfl) (by kernel_rfl) (by kernel_rfl) (by kernel_rfl) (fun _ _ _ h => h) (by rfl) ?_ hS ?_
            rotate_left
            · intro w hSw; (try dsimp only at hSw); obtain ⟨s1, s2, s3, s4, s5⟩ := hSw; go_simp; (try with_reducible rfl)
            simp only [Act.put, List.setIfInBounds_toArray, List.set_cons_zero, List.set_cons_succ]
            refine wpAnyN_take_at 14 46 (v := ?_) rfl rfl (by kernel_rfl) (by kernel_rfl) (by kernel_rfl) (by kernel_rfl) (by kernel_rfl) (fun _ _ _ h => h) (by rfl) ?_ hS ?_
            rotate_left
            · intro w hSw; (try dsimp only at hSw); obtain ⟨s1, s2, s3, s4, s5⟩ := hSw; go_simp; (try with_reducible rfl)
            simp only [Act.put, List.setIfInBounds_toArray, List.set_cons_zero, List.set_cons_succ]
            refine wpAnyN_one (i := 15) rfl (by kernel_rfl) (fun K hK => ?_)
            go_simp
            refine hK _ _ (fun _ => ⟨cell_alloc hS.1 _, cell_alloc hS.2.1 _, cell_alloc hS.2.2.1 _, cell_alloc hS.2.2.2.1 _, cell_alloc hS.2.2.2.2 _⟩) ?_
            refine wpAnyN_rest 16 [_, _] rfl (by kernel_rfl) (by kernel_rfl) ?_
            clear hS hK
            have hown3 := HO3.out
            go_wp2_with (at_builtin; refine wpList_append_own _ rfl _ _ 22 rfl w1.heap.size 9 i0 (.string ByteArray.empty) 1 16 Try.underlying22 hi hz0 hz1 hz2 rfl (by decide) _ _ _ rfl (hown3.alloc _) ⟨w3.heap.size, 0, none⟩ 1 1 [.string ((X ++ (⟨#[32, 60, 32]⟩ : ByteArray)) ++ Y)] rfl rfl (cells_one w3 _ _) ?c2 ?c3 ?c4 ?c5 ?_)
            case c2 => first | rfl | (intro u hu; simp at hu; subst hu; rfl)
            case c3 => unfold maxLen; omega
            case c4 => omega
            case c5 => first | omega | (simp; omega)
            · intro v' w2 hown' hgrow _
              have hbw4 := ((HBW3.out.alloc (by omega) (.cells #[.string ((X ++ (⟨#[32, 60, 32]⟩ : ByteArray)) ++ Y)] 9)).drew).trans (below_of_grown hgrow (fun k hk => (hown3.lt k hk).1) (by first | omega | (simp; omega)))
              rw [HU.out] at hown'
              have HO := Lib.hid hown'
              clear hown' hgrow
              go_wp2
              go_roundw
              case rel => exact ⟨m + 1, by go_num, by omega, HO.out, hbw4⟩
              case measure => simp [intOf]; omega
          · obtain rfl : m = ps.length := by omega
            have e1 : ns.map (lvl ++ ·) ++ (ps.map (prLine ns)).take ps.length = wLines (ns, ps) := by rw [List.take_of_length_le (by simp)]; rfl
            rw [e1, show ns.length + ps.length = (wLines (ns, ps)).length from HL.out.2.symm] at hown
            obtain ⟨A3, c3, rfl, hrow3, _⟩ := RowOf.own hown
            have hjl := joinL_bound 43 _ HL.out.1
            have hll := HL.out.2
            have cj := fun w4 h4 => join_any A3 c3 (wLines (ns, ps)) w4 h4 (by omega)
            rw [hll] at cj hown
            have CJ := Lib.hid cj
            clear cj e1 hown
            go_wp2_with fail
            refine (CJ.out _ hrow3).mono ?_
            rintro e w5 ⟨rfl, b5⟩
            go_wp2
            go_ret2
            exact ⟨ret_strbool (by rw [HW.out]) rfl, (HB1.out.then hbw).then b5⟩

end Go.Proofs.Ytobmmbhmaaednaa

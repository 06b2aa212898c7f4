/-
  Package slug: Has, numbered.
-/
import Derived.Test.YtpifhjdbcdcelaaDoorSlC
namespace Go.Proofs.YtpifhjdbcdcelaaDoor
open Go.RowKit Go.Maps
set_option linter.unusedSimpArgs false
set_option linter.unusedVariables false
set_option maxRecDepth 100000

theorem has_any {w : World} {B b : Nat} {m : Value} {had : List (List UInt8)} (h : AncIs w B b m had) (id : List UInt8) (hid : id.length ≤ maxLen) :
    Calls Tryd.prog 19 #[.pointer (some ⟨b, 0, none⟩), .string ⟨id.toArray⟩] w fun e w' => e = .returned (.bool (decide (id ∈ had))) ∧ w = w' := by
  have c0 := h.cell
  obtain ⟨c, h1, _, _⟩ := slLook_any h id hid
  have hl := h1 w (fun _ _ => rfl)
  clear h h1
  generalize decide (id ∈ had) = r at *
  go_enter Tryd.func19, Tryd.ntmps19
  go_wp2
  go_ret
  exact ⟨rfl, rfl⟩
theorem has_none (id : ByteArray) (w : World) :
    Calls Tryd.prog 19 #[.pointer none, .string id] w fun e w' => e = .returned (.bool false) ∧ w = w' := by
  go_enter Tryd.func19, Tryd.ntmps19
  go_wp2
  go_ret
  exact ⟨rfl, rfl⟩
theorem AncTurn.trans {a c d : World} {b : Nat} {m : Value} (h : AncTurn a c b m) (k : AncTurn c d b m) : AncTurn a d b m :=
  ⟨Nat.le_trans h.size k.size, fun g hg hb hm => (k.rest g (Nat.lt_of_lt_of_le hg h.size) hb hm).trans (h.rest g hg hb hm)⟩
theorem str_cat (a b : List UInt8) : (⟨a.toArray⟩ : ByteArray) ++ ⟨b.toArray⟩ = ⟨(a ++ b).toArray⟩ := by rw [← Lib.mk_data ((⟨a.toArray⟩ : ByteArray) ++ ⟨b.toArray⟩)]; simp
/-- What stands behind numbered. -/
def NumEnd (w w' : World) (B b : Nat) (m : Value) (had : List (List UInt8)) (id : List UInt8) : Prop :=
  ∃ g n D, m = .map (some g) ∧ B ≤ g ∧ n ≤ 2 * had.length ∧ FreeIs D had ∧ SlMap w' g (n + 1) (D.put (.string id) (.lit (.int .i64 ((slLeast had id + 1 : Nat) : Int)))) ∧ w'.heap[b]? = some (.cells #[m] 45 (0, 0)) ∧ AncTurn w w' b m ∧ Below B w w'

set_option maxHeartbeats 4000000 in
theorem numbered_any {w : World} {B b : Nat} {m : Value} {had : List (List UInt8)} (hB : B ≤ w.heap.size) (h : AncIs w B b m had) (id : List UInt8) (hin : id ∈ had) (hh : had.length ≤ 60) (hid : id.length ≤ 900) :
    Calls Tryd.prog 20 #[.pointer (some ⟨b, 0, none⟩), .string ⟨id.toArray⟩] w fun e w' => e = .returned (.string ⟨(slNum id (slLeast had id)).toArray⟩) ∧ NumEnd w w' B b m had id := by
  have hidm : id.length ≤ maxLen := by unfold maxLen; omega
  obtain ⟨l1, l2, l3, l4⟩ := slLeast_is had id hh
  have c0 := h.cell
  obtain ⟨c, _, h2, h3⟩ := slLook_any h id hidm
  have hl := h2 w (fun _ _ => rfl)
  obtain ⟨n0, rfl, hn1, hn2, hn3⟩ := h3 hin
  have hn4 : n0 ≤ slLeast had id := Nat.le_of_not_lt fun hlt => l3 (hn3 _ l1 hlt)
  rcases h.map with ⟨_, e⟩ | ⟨g, n, D, rfl, hBg, hm, hn, hf⟩
  · rw [e] at hin; cases hin
  · have hkey := slKey id hidm
    have hst := h.blk
    have hgb : b ≠ g := slMap_ne hm hst
    have hlt := (Array.getElem?_eq_some_iff.1 hst).1
    have HH := Lib.hid h
    have HF := Lib.hid hf
    have HL := Lib.hid (And.intro l3 l4)
    have hszi : (⟨id.toArray⟩ : ByteArray).size = id.length := str_size _
    have r1 := fun W => run_string_add_sum (P := Tryd.prog) W (⟨id.toArray⟩ : ByteArray) (⟨#[45]⟩ : ByteArray) (by rw [hszi]; show id.length + 1 ≤ _; omega)
    have eP : (⟨id.toArray⟩ : ByteArray) ++ (⟨#[45]⟩ : ByteArray) = ⟨(id ++ [45]).toArray⟩ := str_cat id [45]
    rw [eP] at r1
    clear h h2 h3 hn3 l3 l4 hszi eP hf hst
    go_enter Tryd.func20, Tryd.ntmps20
    go_wp2_with fail
    go_loop [5] (fun v => ∃ k : Nat, v = .int .i64 k ∧ 2 ≤ k ∧ k ≤ slLeast had id) (fun v => slLeast had id - (intOf v).toNat)
    case atStart => exact ⟨n0, rfl, hn1, hn4⟩
    case round =>
      obtain ⟨k, rfl, hk2, hkl⟩ := hrel
      have hk99 : k < 100 := by omega
      have ci := fun W => Tryd.strconv_Itoa_small k hk99 W
      have r2 := fun W => run_string_add_sum (P := Tryd.prog) W (⟨(id ++ [45]).toArray⟩ : ByteArray) (⟨(Lib.decDigits k).toArray⟩ : ByteArray) (by rw [str_size, str_size]; have := (decDigits_ok hk99).2.2; simp; omega)
      have eN : (⟨(id ++ [45]).toArray⟩ : ByteArray) ++ (⟨(Lib.decDigits k).toArray⟩ : ByteArray) = ⟨(slNum id k).toArray⟩ := by rw [str_cat]; unfold slNum; simp
      rw [eN] at r2
      have hnl : (slNum id k).length ≤ maxLen := by unfold slNum maxLen; have := (decDigits_ok hk99).2.2; simp; omega
      have ch := has_any HH.out (slNum id k) hnl
      have CI := Lib.hid ci
      clear ci eN hnl
      by_cases hmem : slNum id k ∈ had
      · have hne : k ≠ slLeast had id := fun e => HL.out.1 (e ▸ hmem)
        rw [decide_eq_true hmem] at ch
        have CH := Lib.hid ch
        have HK := Lib.hid (show k + 1 ≤ slLeast had id from by omega)
        clear ch hmem hne
        generalize slNum id k = x at *
        go_wp2_with fail
        refine (CI.out _).mono ?_
        rintro e w' ⟨rfl, rfl⟩
        go_wp2_with fail
        refine CH.out.mono ?_
        rintro e w' ⟨rfl, rfl⟩
        go_wp2
        all_goals first
          | exact ⟨⟨k + 1, by go_num, by omega, HK.out⟩, by have := HK.out; simp only [intOf]; omega⟩
          | (go_round
             case rel => exact ⟨k + 1, by go_num, by omega, HK.out⟩
             case measure => have := HK.out; simp [intOf]; omega)
      · have hke : k = slLeast had id := by
          refine Nat.le_antisymm hkl (Nat.le_of_not_lt fun hlt => hmem (HL.out.2 k hk2 hlt))
        rw [decide_eq_false hmem] at ch
        have CH := Lib.hid ch
        obtain ⟨w5, hup, hm5, hg5⟩ := hm.update slLaw Tryd.underlying43 (by unfold maxLen; omega) hkey (val := .int .i64 ((k + 1 : Nat) : Int)) (plainElem_int Tryd.underlying3 (WalkArith.wf_i64 (by omega)))
        rw [hke] at hm5
        have hrest : AncTurn w w5 b (.map (some g)) := ⟨hg5.size, fun x hx _ hxm => hg5.block x hx (fun e => hxm (by injection e with e; rw [e]))⟩
        have hbl : w5.heap[b]? = some (.cells #[.map (some g)] 45 (0, 0)) := (hg5.block b hlt (fun e => hgb (by injection e))).trans HH.out.blk
        have hbe : Below B w w5 := (Below.refl B w).grown hg5 hB (fun x e => by injection e with e; omega)
        have HE := Lib.hid (show NumEnd w w5 B b (.map (some g)) had id from ⟨g, n, D, rfl, hBg, hn, HF.out, hm5, hbl, hrest, hbe⟩)
        have HKE := Lib.hid hke
        rw [show ((k + 1 : Nat) : Int) = (k : Int) + 1 from by omega] at hup
        clear ch hmem hm hm5 hg5 hrest hbl hbe hke
        generalize hx : slNum id k = x at *
        have HX := Lib.hid hx
        clear hx
        go_wp2_with fail
        refine (CI.out _).mono ?_
        rintro e w' ⟨rfl, rfl⟩
        go_wp2_with fail
        refine CH.out.mono ?_
        rintro e w' ⟨rfl, rfl⟩
        go_wp2
        go_ret
        exact ⟨by rw [← HKE.out, HX.out]; rfl, HE.out⟩

end Go.Proofs.YtpifhjdbcdcelaaDoor

/-
  Package emph: slices of nodes; Clone; together; DeleteFunc; Merge.
-/
import Derived.Test.YtoomkhmmgjiniaaEmB
import Derived.Deep.RegionHeld3
import Derived.Lib.SliceRun
namespace Go.Proofs.Ytoomkhmmgjiniaa
open Go.RowKit
set_option linter.unusedSimpArgs false
set_option linter.unusedVariables false
set_option maxRecDepth 100000

/-! ### slices of nodes -/
def dropI (A : Option Addr) (cap k : Nat) : Option Addr := if cap = k then A else A.map (·.add (k * 5))
theorem InlsAt.dropL {w : World} {A : Option Addr} {cap : Nat} {X : List Iln} (h : InlsAt w A cap X) {k : Nat} (hk : k ≤ X.length) : InlsAt w (dropI A cap k) (cap - k) (X.drop k) := by
  have h1 := h.le
  have h2 := h.cap
  refine ⟨by rw [List.length_drop]; omega, by omega, ?_⟩
  by_cases h0 : X.drop k = []
  · exact Or.inl h0
  · have hlt : k < X.length := by
      rw [List.drop_eq_nil_iff] at h0
      omega
    rcases h.cells with e | ⟨b, off, e, hb, hc⟩
    · rw [e] at hlt; simp at hlt
    · refine Or.inr ⟨b, off + k * 5, ?_, hb, fun i hi j u hu => ?_⟩
      · unfold dropI
        rw [if_neg (by omega), e, Option.map_some, addr_add]
      · rw [List.length_drop] at hi
        rw [List.getElem_drop] at hu
        have := hc (k + i) (by omega) j u hu
        rw [← this]
        congr 2
        omega
theorem InlsAt.takeL {w : World} {A : Option Addr} {cap : Nat} {X : List Iln} (h : InlsAt w A cap X) (k : Nat) : InlsAt w A cap (X.take k) := by
  refine ⟨by rw [List.length_take]; have := h.le; omega, h.cap, ?_⟩
  rcases h.cells with e | ⟨b, off, e, hb, hc⟩
  · exact Or.inl (by rw [e]; simp)
  · refine Or.inr ⟨b, off, e, hb, fun i hi j u hu => ?_⟩
    rw [List.length_take] at hi
    rw [List.getElem_take] at hu
    exact hc i (by omega) j u hu
theorem elem_inls : Try.prog.elem 24 = 30 := by kernel_rfl
theorem islice_low (A : Option Addr) (len cap k : Nat) (h : k ≤ len) (W : World) : (Instr.slice 24 (.slice A len cap) (some (.int .i64 (k : Int))) none none).run Try.prog W = .ok (.slice (dropI A cap k) (len - k) (cap - k)) W := by
  rw [run_slice_l W 24 A len cap (by kernel_rfl) .i64 (k : Int) (by omega) (by omega)]
  rw [show Try.prog.elem 24 = 30 from elem_inls]
  go_simp
  simp [sliced, dropI]
theorem islice_high (A : Option Addr) (len cap k : Nat) (h : k ≤ cap) (W : World) : (Instr.slice 24 (.slice A len cap) none (some (.int .i64 (k : Int))) none).run Try.prog W = .ok (.slice A k cap) W := by
  rw [run_slice_h W 24 A len cap (by kernel_rfl) .i64 (k : Int) (by omega) (by omega)]
  rw [show Try.prog.elem 24 = 30 from elem_inls]
  go_simp
theorem ils_one' (X : List Iln) : ∀ u ∈ flt ilC X, u.oneCell' = true := by
  intro u hu
  obtain ⟨x, _, hx⟩ := List.mem_flatMap.1 hu
  exact ilC_one x u hx
/-- What a row owns at its beginning. -/
theorem own_cut {w : World} {B g n cap s m : Nat} {e : TypeId} {xs : List Value} (h : w.ownsRow B e s (.slice (some ⟨g, 0, none⟩) n cap) n xs) (hm : m ≤ n) : w.ownsRow B e s (.slice (some ⟨g, 0, none⟩) m cap) m (xs.take (m * s)) := by
  have hl := h.1
  have hms : m * s ≤ n * s := Nat.mul_le_mul_right s hm
  refine ⟨by rw [List.length_take]; omega, ?_⟩
  rcases h.2 with ⟨e1, _⟩ | ⟨g', cap', cur, e1, hb, hg, hnc, hcm, hcs, ht⟩
  · cases e1
  · cases e1
    refine Or.inr ⟨g, cap, cur, rfl, hb, hg, by omega, hcm, hcs, ?_⟩
    rw [← ht, List.take_take, Nat.min_eq_left hms]
/-- Cells behind some place are written over. -/
theorem own_setCells {B g n cap s : Nat} {e : TypeId} : ∀ (L : List Value) (o : Nat) (w : World) (xs : List Value), w.ownsRow B e s (.slice (some ⟨g, 0, none⟩) n cap) n xs →
    ∃ ys, ys.take o = xs.take o ∧ (w.setCells g o L).ownsRow B e s (.slice (some ⟨g, 0, none⟩) n cap) n ys ∧ w.grownBy (w.setCells g o L) (some g)
  | [], o, w, xs, h => ⟨xs, rfl, h, ⟨rfl, rfl, rfl, Nat.le_refl _, fun _ _ _ => rfl⟩⟩
  | v :: L, o, w, xs, h => by
    obtain ⟨s1, g1⟩ := h.stored o v
    obtain ⟨ys, h1, h2, h3⟩ := own_setCells L (o + 1) _ _ s1
    refine ⟨ys, ?_, h2, g1.trans h3⟩
    have := congrArg (List.take o) h1
    rw [List.take_take, List.take_take, Nat.min_eq_left (by omega)] at this
    rw [this, List.take_set_of_le (Nat.le_refl o)]

/-! ### Clone -/
theorem clone_inls (A : Option Addr) (cap : Nat) (ls : List Iln) (w : World) (hrow : InlsAt w A cap ls) (hn : ls.length ≤ 100000000) :
    Calls Try.prog 15 #[.slice A ls.length cap] w fun e w' => ∃ v, e = .returned v ∧ w'.ownsRow w.heap.size 30 5 v ls.length (flt ilC ls) ∧ Below w.heap.size w w' := by
  obtain ⟨i0, hi, hz0, hz1, hz2⟩ := info_parts infoInl
  have hl := flt_length ilC_length ls
  have h1 := ils_one' ls
  have qe : ∀ (w : World) (a : Option Addr) (n c n' c' : Nat), (binOp .eql 24 (.slice a n c) (.slice none n' c')).run Try.prog w = .ok (.bool a.isNone) w := fun w a n c n' c' => Lib.run_eql_slice_nil w _ _ a n c n' c' Try.underlying24
  rcases A with _ | ad
  · have h0 : ls = [] := by
      rcases hrow.cells with h | ⟨b, off, e, _⟩
      · exact h
      · cases e
    subst h0
    go_enter Try.func15, Try.ntmps15
    go_wp2
    go_ret
    exact ⟨_, rfl, World.ownsRow_nil _ _ _ _, Below.refl _ _⟩
  · have hown0 : (w.alloc (.cells #[] 30)).ownsRow w.heap.size 30 5 (.slice (some ⟨w.heap.size, 0, none⟩) 0 0) 0 [] :=
      ⟨rfl, .inr ⟨w.heap.size, 0, #[], rfl, Nat.le_refl _, heap_alloc_new w _, Nat.le_refl _, Nat.zero_le _, rfl, rfl⟩⟩
    have b0 : Below w.heap.size w (w.alloc (.cells #[] 30)) := (Below.refl _ w).alloc (Nat.le_refl _) _
    have hc := (hrow.below b0).flat ilC_length (by decide)
    have hbs := b0.size
    have HL := Lib.hid hl
    have HB0 := Lib.hid b0
    clear hl b0
    go_enter Try.func15, Try.ntmps15
    go_wp2_with (at_builtin; refine wpList_append_own _ rfl _ _ 24 rfl w.heap.size 30 i0 (.agg #[.int .i64 0, .int .i64 0, .string ByteArray.empty, .string ByteArray.empty, .string ByteArray.empty]) 5 64 Try.underlying24 hi hz0 hz1 hz2 rfl (by decide) _ 0 [] rfl hown0 ad ls.length cap (flt ilC ls) rfl HL.out hc h1 (by unfold maxLen; omega) (by omega) hbs ?_)
    intro v' w2 hown' hgrow _
    have hb := HB0.out.grown hgrow hbs (fun k hk => (hown0.lt k hk).1)
    have HO := Lib.hid hown'
    clear hown' hgrow
    go_wp2
    go_ret
    exact ⟨_, rfl, by simpa using HO.out, hb⟩

/-! ### Searching -/
/-- What the search answers. -/
def idxI (p : Iln → Bool) (X : List Iln) : Int := if X.findIdx p < X.length then (X.findIdx p : Int) else -1
theorem idx_step {p : Iln → Bool} {X : List Iln} {k : Nat} (hk : k < X.length) (h : k ≤ X.findIdx p) : (p X[k] = true → X.findIdx p = k) ∧ (p X[k] = false → k + 1 ≤ X.findIdx p) := by
  constructor
  · intro hp
    rcases Nat.lt_or_ge k (X.findIdx p) with h1 | h1
    · have := List.not_of_lt_findIdx h1
      simp [hp] at this
    · omega
  · intro hp
    rcases Nat.lt_or_ge k (X.findIdx p) with h1 | h1
    · exact h1
    · have e : X.findIdx p = k := by omega
      have := List.findIdx_getElem (w := show X.findIdx p < X.length by omega)
      simp only [e] at this
      rw [hp] at this
      cases this
def togI (y x : Iln) : Bool := !(x.kd == 1) || !(x.dp == y.dp)

theorem tog1_any (x y : Iln) (X : List Iln) (bx : Nat) (A : Option Addr) (cap n : Nat) (w : World) (hn : n = (y :: X).length) (hbx : w.cell? ⟨bx, 0, none⟩ = some (.slice A n cap)) (hlt : bx < w.heap.size) (hrow : InlsAt w A cap (y :: X)) :
    Calls Try.prog 28 #[ilV x, .pointer (some ⟨bx, 0, none⟩)] w fun e w' => e = .returned (.bool (togI y x)) ∧ Below w.heap.size w w' := by
  obtain ⟨k, d, s, u, t⟩ := x
  obtain ⟨b, off, rfl, hb, c0, c1, c2, c3, c4⟩ := InlsAt.cells5 hrow (k := 0) (by simp)
  simp only [List.getElem_cons_zero, Nat.zero_mul, Nat.add_zero] at c1
  have b0 : Below w.heap.size w (w.alloc (.cells #[.int .i64 k, .int .i64 d, .string ⟨s.toArray⟩, .string ⟨u.toArray⟩, .string ⟨t.toArray⟩] 30)) := (Below.refl _ w).alloc (Nat.le_refl _) _
  have hbx1 := (b0.cell (p := ⟨bx, 0, none⟩) hlt).trans hbx
  have c11 := (b0.cell (p := ⟨b, off + 1, none⟩) hb).trans c1
  have hn0 : 0 < n := by rw [hn]; simp
  unfold ilV togI
  dsimp only
  generalize y.dp = yd at *
  clear hrow c0 c2 c3 c4 c1 hbx hn
  have hbs : b < (w.alloc (.cells #[.int .i64 k, .int .i64 d, .string ⟨s.toArray⟩, .string ⟨u.toArray⟩, .string ⟨t.toArray⟩] 30)).heap.size := by simp; omega
  clear b0
  obtain ⟨x0, x1, x2, x3, x4⟩ := box5 w (.int .i64 k) (.int .i64 d) (.string ⟨s.toArray⟩) (.string ⟨u.toArray⟩) (.string ⟨t.toArray⟩) 30
  by_cases hk : k = 1
  · subst hk
    go_enter Try.func28, Try.ntmps28
    go_wp2_with fail
    go_quiet (fail)
    all_goals go_wp2
    all_goals go_ret
    all_goals exact ⟨ret_bool (by simp [bne]), below_drewN' ((Below.refl _ w).alloc (Nat.le_refl _) _) _⟩
  · have hk1 : (k != 1) = true := by simpa using hk
    have hk2 : (k == 1) = false := by simpa using hk
    go_enter Try.func28, Try.ntmps28
    go_wp2_with fail
    go_quiet (fail)
    all_goals go_wp2
    all_goals go_ret
    all_goals exact ⟨ret_bool (by simp [hk]), below_drewN' ((Below.refl _ w).alloc (Nat.le_refl _) _) _⟩

def emI (x : Iln) : Bool := x.kd == 1 && x.txt == []
theorem emI_any (x : Iln) (w : World) : Calls Try.prog 16 #[ilV x] w fun e w' => e = .returned (.bool (emI x)) ∧ Below w.heap.size w w' := empty_any x w

set_option maxHeartbeats 2000000 in
theorem idxE_any (A : Option Addr) (c : Nat) (X : List Iln) (w : World) (hrow : InlsAt w A c X) :
    Calls Try.prog 27 #[.slice A X.length c, .func (.func 16) #[] #[]] w fun e w' => e = .returned (.int .i64 (idxI emI X)) ∧ Below w.heap.size w w' := by
  have hcl := hrow.le
  have hcm := hrow.cap
  unfold maxLen at hcm
  go_enter Try.func27, Try.ntmps27
  go_wp2_with fail
  go_loopw [8] (fun i wr => ∃ k : Nat, i = .int .i64 k ∧ k ≤ X.length ∧ k ≤ X.findIdx emI ∧ Below w.heap.size w wr) (fun i _ => X.length - (intOf i).toNat)
  case atStart => exact ⟨0, rfl, Nat.zero_le _, Nat.zero_le _, Below.refl _ _⟩
  case round =>
    obtain ⟨k, rfl, hk, hf, hbw⟩ := hrel
    have HR := Lib.hid hrow
    by_cases hp : k < X.length
    · obtain ⟨b, off, rfl, hb, c0, c1, c2, c3, c4⟩ := InlsAt.cells5 (EltsAt.below hrow hbw) hp
      obtain ⟨st1, st2⟩ := idx_step (p := emI) hp hf
      have HS1 := Lib.hid st1
      have HS2 := Lib.hid st2
      have ce := Lib.hid (fun w1 => emI_any X[k] w1)
      have HF := Lib.hid hf
      clear hf st1 st2 hrow
      generalize hx : X[k] = x at *
      have HXX := Lib.hid hx
      clear hx
      cases hpx : emI x with
      | true =>
        rw [hpx] at ce HS1
        have HE := Lib.hid (HS1.out rfl)
        clear HS1 HS2 hpx
        obtain ⟨kd, dp, txt, url, ttl⟩ := x
        unfold ilV at ce
        dsimp only at ce c0 c1 c2 c3 c4
        go_wp2_with fail
        refine (ce.out _).mono ?_
        rintro e w1 ⟨rfl, b1⟩
        go_wp2
        go_ret
        exact ⟨by unfold idxI; rw [HE.out, if_pos hp]; rfl, hbw.then b1⟩
      | false =>
        rw [hpx] at ce HS2
        have HE := Lib.hid (HS2.out rfl)
        clear HS1 HS2 hpx
        obtain ⟨kd, dp, txt, url, ttl⟩ := x
        unfold ilV at ce
        dsimp only at ce c0 c1 c2 c3 c4
        go_wp2_with fail
        refine (ce.out _).mono ?_
        rintro e w1 ⟨rfl, b1⟩
        go_wp2
        go_roundw
        case rel => exact ⟨k + 1, by go_num, by omega, HE.out, hbw.then b1⟩
        case measure => simp [intOf]; omega
    · obtain rfl : k = X.length := by omega
      have HE := Lib.hid hf
      clear hf hrow HR
      go_wp2
      go_ret
      exact ⟨by unfold idxI; rw [if_neg (by have := HE.out; omega)]; rfl, hbw⟩

set_option maxHeartbeats 2000000 in
theorem idxT_any (A : Option Addr) (c : Nat) (X : List Iln) (y : Iln) (Y : List Iln) (bx : Nat) (w : World) (hrow : InlsAt w A c X) (hX : X = y :: Y) (hbx : w.cell? ⟨bx, 0, none⟩ = some (.slice A X.length c)) (hlt : bx < w.heap.size) :
    Calls Try.prog 27 #[.slice A X.length c, .func (.func 28) #[] #[.pointer (some ⟨bx, 0, none⟩)]] w fun e w' => e = .returned (.int .i64 (idxI (togI y) X)) ∧ Below w.heap.size w w' := by
  have hcl := hrow.le
  have hcm := hrow.cap
  unfold maxLen at hcm
  have ctog := Lib.hid (fun (x : Iln) (W : World) (hb : Below w.heap.size w W) => tog1_any x y Y bx A c X.length W (by rw [hX]) ((hb.cell (p := ⟨bx, 0, none⟩) hlt).trans hbx) (Nat.lt_of_lt_of_le hlt hb.size) (by rw [← hX]; exact EltsAt.below hrow hb))
  clear hbx hX
  go_enter Try.func27, Try.ntmps27
  go_wp2_with fail
  go_loopw [8] (fun i wr => ∃ k : Nat, i = .int .i64 k ∧ k ≤ X.length ∧ k ≤ X.findIdx (togI y) ∧ Below w.heap.size w wr) (fun i _ => X.length - (intOf i).toNat)
  case atStart => exact ⟨0, rfl, Nat.zero_le _, Nat.zero_le _, Below.refl _ _⟩
  case round =>
    obtain ⟨k, rfl, hk, hf, hbw⟩ := hrel
    have HR := Lib.hid hrow
    by_cases hp : k < X.length
    · obtain ⟨b, off, rfl, hb, c0, c1, c2, c3, c4⟩ := InlsAt.cells5 (EltsAt.below hrow hbw) hp
      obtain ⟨st1, st2⟩ := idx_step (p := (togI y)) hp hf
      have HS1 := Lib.hid st1
      have HS2 := Lib.hid st2
      have ce := Lib.hid (fun (W : World) (h : Below w.heap.size w W) => ctog.out X[k] W h)
      have HF := Lib.hid hf
      clear hf st1 st2 hrow
      generalize hx : X[k] = x at *
      have HXX := Lib.hid hx
      clear hx
      cases hpx : (togI y) x with
      | true =>
        rw [hpx] at ce HS1
        have HE := Lib.hid (HS1.out rfl)
        clear HS1 HS2 hpx
        obtain ⟨kd, dp, txt, url, ttl⟩ := x
        unfold ilV at ce
        dsimp only at ce c0 c1 c2 c3 c4
        go_wp2_with fail
        refine (ce.out _ hbw).mono ?_
        rintro e w1 ⟨rfl, b1⟩
        go_wp2
        go_ret
        exact ⟨by unfold idxI; rw [HE.out, if_pos hp]; rfl, hbw.then b1⟩
      | false =>
        rw [hpx] at ce HS2
        have HE := Lib.hid (HS2.out rfl)
        clear HS1 HS2 hpx
        obtain ⟨kd, dp, txt, url, ttl⟩ := x
        unfold ilV at ce
        dsimp only at ce c0 c1 c2 c3 c4
        go_wp2_with fail
        refine (ce.out _ hbw).mono ?_
        rintro e w1 ⟨rfl, b1⟩
        go_wp2
        go_roundw
        case rel => exact ⟨k + 1, by go_num, by omega, HE.out, hbw.then b1⟩
        case measure => simp [intOf]; omega
    · obtain rfl : k = X.length := by omega
      have HE := Lib.hid hf
      clear hf hrow HR
      go_wp2
      go_ret
      exact ⟨by unfold idxI; rw [if_neg (by have := HE.out; omega)]; rfl, hbw⟩

/-- How many words of one depth stand at the beginning. -/
theorem together_any (A : Option Addr) (c : Nat) (y : Iln) (Y : List Iln) (w : World) (hrow : InlsAt w A c (y :: Y)) :
    Calls Try.prog 17 #[.slice A (y :: Y).length c] w fun e w' => e = .returned (.int .i64 ((y :: Y).findIdx (togI y) : Nat)) ∧ Below w.heap.size w w' := by
  have hmf : ∀ (fn : Fn) (first cap : Array Value) (w : World), (Instr.makeFunc fn first cap).run Try.prog w = .ok (.func fn first cap) w := fun _ _ _ _ => rfl
  have b0 : Below w.heap.size w (w.alloc (.cells #[.slice A (y :: Y).length c] 24)) := (Below.refl _ w).alloc (Nat.le_refl _) _
  have hc0 : (w.alloc (.cells #[.slice A (y :: Y).length c] 24)).cell? ⟨w.heap.size, 0, none⟩ = some (.slice A (y :: Y).length c) := by simp
  have hs0 := alloc_size w (.cells #[.slice A (y :: Y).length c] 24)
  have ci := idxT_any A c (y :: Y) y Y w.heap.size _ (EltsAt.below hrow b0) rfl hc0 (by show w.heap.size < _; omega)
  have hcm := hrow.cap
  have hle := hrow.le
  unfold maxLen at hcm
  unfold idxI at ci
  have HL := Lib.hid (List.findIdx_le_length (p := togI y) (xs := y :: Y))
  have HB := Lib.hid b0
  clear hrow b0
  generalize (y :: Y).findIdx (togI y) = i at *
  generalize (y :: Y).length = n at *
  by_cases hi : i < n
  · rw [if_pos hi] at ci
    go_enter Try.func17, Try.ntmps17
    go_wp2_with fail
    refine ci.mono ?_
    rintro e w1 ⟨rfl, b1⟩
    go_wp2
    go_ret
    exact ⟨rfl, HB.out.then b1⟩
  · rw [if_neg hi] at ci
    have hin : i = n := by have := HL.out; omega
    subst hin
    go_enter Try.func17, Try.ntmps17
    go_wp2_with fail
    refine ci.mono ?_
    rintro e w1 ⟨rfl, b1⟩
    have hc1 := (b1.cell (p := ⟨w.heap.size, 0, none⟩) (by show w.heap.size < _; omega)).trans hc0
    go_wp2
    go_ret
    exact ⟨rfl, HB.out.then b1⟩

end Go.Proofs.Ytoomkhmmgjiniaa

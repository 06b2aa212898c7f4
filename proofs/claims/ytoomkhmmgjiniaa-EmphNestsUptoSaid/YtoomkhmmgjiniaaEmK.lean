/-
  Package emph: close: a row that may close is paired with rows ahead.
-/
import Derived.Test.YtoomkhmmgjiniaaEmJ
namespace Go.Proofs.Ytoomkhmmgjiniaa
open Go.RowKit Go.Maps Go.ChangeShapes
set_option linter.unusedSimpArgs false
set_option linter.unusedVariables false
set_option maxRecDepth 100000

/-- What is so of every piece: numbers that fit; its nodes lie where its slice says (w0: an elder world). -/
structure PmB (w0 : World) (x : Pm) : Prop where
  n1 : x.1.it.n ≤ 4294967296
  n2 : 0 < x.1.it.n → x.1.it.n ≤ x.1.it.ff
  en : (x.1.en : Int) + max x.1.it.n 0 ≤ 4294967296
  bg : (x.1.bg.length : Int) + max x.1.it.n 0 ≤ 4294967296
  ff : x.1.it.ff ≤ 4294967296
  lv : ∃ A c, x.2.1 = .slice A x.1.it.nd.length c ∧ InlsAt w0 A c x.1.it.nd
  kd : ∀ z ∈ x.1.bg, z = 3 ∨ z = 4
theorem PmB.pairX {w0 : World} {x : Pm} (h : PmB w0 x) {k : Int} (hk : k = 1 ∨ k = 2) (hn : k ≤ x.1.it.n) (bv : Value) : PmB w0 (pairX x k bv) := by
  obtain ⟨h1, h2, h3, h4, h5, h6, h7⟩ := h
  refine ⟨?_, ?_, ?_, ?_, h5, h6, ?_⟩
  · show x.1.it.n - k ≤ _; omega
  · show 0 < x.1.it.n - k → x.1.it.n - k ≤ x.1.it.ff; intro _; have := h2 (by omega); omega
  · show (x.1.en : Int) + max (x.1.it.n - k) 0 ≤ _; omega
  · show ((x.1.bg ++ [if k = 2 then 4 else 3]).length : Int) + max (x.1.it.n - k) 0 ≤ _
    rw [List.length_append, List.length_singleton]
    omega
  · intro z hz
    rcases List.mem_append.1 hz with hz | hz
    · exact h7 z hz
    · rw [List.mem_singleton] at hz
      subst hz
      split <;> simp
theorem PmB.pairY {w0 : World} {x : Pm} (h : PmB w0 x) {k : Int} (hk : k = 1 ∨ k = 2) (hn : k ≤ x.1.it.n) : PmB w0 (pairY x k) := by
  obtain ⟨h1, h2, h3, h4, h5, h6, h7⟩ := h
  refine ⟨?_, ?_, ?_, ?_, h5, h6, h7⟩
  · show x.1.it.n - k ≤ _; omega
  · show 0 < x.1.it.n - k → x.1.it.n - k ≤ x.1.it.ff; intro _; have := h2 (by omega); omega
  · show ((x.1.en + 1 : Nat) : Int) + max (x.1.it.n - k) 0 ≤ _; omega
  · show (x.1.bg.length : Int) + max (x.1.it.n - k) 0 ≤ _; omega

/-- Kinds that go together, and rows that do. -/
theorem fit_is {o c : Itm} (ho : 0 < o.ff) (hc : 0 < c.ff) (hs : o.sg = c.sg) : fitK c.sg (o.op && o.cl) (o.ff.tmod 3) (c.op && c.cl) (c.ff.tmod 3) = fitI o c := by
  have e : (o.ff.tmod 3 + c.ff.tmod 3).tmod 3 = (o.ff + c.ff).tmod 3 := by
    rw [Int.tmod_eq_emod_of_nonneg (by omega : 0 ≤ o.ff), Int.tmod_eq_emod_of_nonneg (by omega : 0 ≤ c.ff), Int.tmod_eq_emod_of_nonneg (by omega : 0 ≤ o.ff + c.ff), Int.tmod_eq_emod_of_nonneg (by omega)]
    omega
  unfold fitK fitI
  rw [e, hs]
  cases h1 : (o.op && o.cl) <;> cases h2 : (c.op && c.cl) <;> simp [bne] <;> (by_cases h3 : o.ff.tmod 3 = 0 <;> by_cases h4 : c.ff.tmod 3 = 0 <;> simp [h3, h4])
theorem tmod_lo {f : Int} (h : 0 < f) : 0 ≤ f.tmod 3 ∧ f.tmod 3 < 3 := by
  rw [Int.tmod_eq_emod_of_nonneg (by omega : 0 ≤ f)]; omega
theorem sat_fit {ps : List Pc} {ops : List Nat} {c : Itm} (hc : 0 < c.ff) {i : Nat} {p : Pc} (hi : i ∈ ops) (hp : ps[i]? = some p) (hf : 0 < p.it.ff) :
    SAt ps ops c.sg (c.op && c.cl) (c.ff.tmod 3) 2 0 i ↔ fitI p.it c = true := by
  unfold SAt proc
  constructor
  · rintro ⟨_, b, r, _, h1, h2⟩
    simp only [kAt, hp, kB] at h1
    simp at h1
    obtain ⟨⟨h3, h4⟩, h5⟩ := h1
    subst h4 h5
    rw [← fit_is hf hc h3]
    exact h2
  · intro h
    have hs : p.it.sg = c.sg := by
      unfold fitI at h
      simp at h
      exact h.1
    refine ⟨hi, (p.it.op && p.it.cl), p.it.ff.tmod 3, ⟨(tmod_lo hf).1, (tmod_lo hf).2, Or.inl ?_⟩, ?_, ?_⟩
    · cases (p.it.op && p.it.cl) <;> simp
    · simp [kAt, hp, kB, hs]
    · rw [fit_is hf hc hs]; exact h
/-- Ascending places, split at one of them. -/
theorem split_at {l : List Nat} (h : l.Pairwise (· < ·)) {i : Nat} (hi : i ∈ l) : ∃ o1 o2, l = o1 ++ i :: o2 ∧ ∀ j ∈ o2, i < j := by
  obtain ⟨o1, o2, rfl⟩ := List.append_of_mem hi
  exact ⟨o1, o2, rfl, fun j hj => (List.pairwise_cons.1 (List.pairwise_append.1 h).2.1).1 j hj⟩

def cellN (w : World) (bp a : Nat) : Nat := match w.cell? ⟨bp, a * 8 + 5, none⟩ with
  | some (.int _ n) => n.toNat
  | _ => 0
/-- Between two pairings: what is done ahead, the closer, which may open. -/
structure ClSt (S : List Itm) (r : List Itm) (w0 : World) (b bp bm cap : Nat) (a : Nat) (Qs : List Pm) (y : Pm) (ops : List Nat) (w : World) : Prop where
  st : ∃ n D ov, PrSt w b bp bm cap n D (Qs ++ [y]) ops ops ov ∧ n + ops.length ≤ 2 * a
  run : Run S (Qs.map Prod.fst) y.1.en ops (y.1.it :: r)
  bds : ∀ x ∈ Qs ++ [y], PmB w0 x
  bg : y.1.bg = [] ∧ y.2.2 = .slice none 0 0
  len : Qs.length = a
theorem run_ops {S : List Itm} {ps : List Pc} {e : Nat} {ops : List Nat} {r : List Itm} (h : Run S ps e ops r) : ops.Pairwise (· < ·) ∧ ∀ k ∈ ops, ∃ p, ps[k]? = some p ∧ mayOpen p.it = true := by
  obtain ⟨l, h1, _⟩ := h.ex
  exact ⟨sim_ops h1, sim_at h1⟩
theorem map_fst_get {Qs : List Pm} {k : Nat} {p : Pc} (h : (Qs.map Prod.fst)[k]? = some p) : ∃ x, Qs[k]? = some x ∧ x.1 = p := by
  rw [List.getElem?_map] at h
  cases hx : Qs[k]? with
  | none => rw [hx] at h; cases h
  | some x => rw [hx] at h; exact ⟨x, rfl, Option.some.inj h⟩
def ClEnd (S r : List Itm) (w0 : World) (b bp bm cap B a : Nat) (sg : UInt8) (ff : Int) (op cl : Bool) (nd : List Iln) (w : World) (e : Ending) (w' : World) : Prop :=
  e = .returned (.tuple #[]) ∧ (∃ Qs y ops, ClSt S r w0 b bp bm cap a Qs y ops w' ∧ (y.1.it.sg = sg ∧ y.1.it.ff = ff ∧ y.1.it.op = op ∧ y.1.it.cl = cl ∧ y.1.it.nd = nd) ∧
    (canClose y.1.it = true → ∀ k ∈ ops, ∀ p, (Qs.map Prod.fst)[k]? = some p → fitI p.it y.1.it = false)) ∧ KB B w w'
set_option maxHeartbeats 8000000 in
theorem close_any {S r : List Itm} {w0 w : World} {b bp bm cap B a : Nat} {Qs : List Pm} {y : Pm} {ops : List Nat} {sg : UInt8} {ff : Int} {op cl : Bool} {nd : List Iln} (h : ClSt S r w0 b bp bm cap a Qs y ops w)
    (hstat : y.1.it.sg = sg ∧ y.1.it.ff = ff ∧ y.1.it.op = op ∧ y.1.it.cl = cl ∧ y.1.it.nd = nd) (hsg : sg ≠ 0) (hcl : cl = true) (hB : B ≤ bm ∧ B ≤ b ∧ B ≤ w.heap.size ∧ B ≤ bp) :
    Calls Try.prog 22 #[.pointer (some ⟨b, 0, none⟩), .int .i64 a] w (ClEnd S r w0 b bp bm cap B a sg ff op cl nd w) := by
  subst hcl
  have HH := Lib.hid h
  have HST := Lib.hid hstat
  clear h hstat
  go_enter Try.func22, Try.ntmps22
  go_wp2_with fail
  go_loopw [4] (fun _ wr => (∃ Qs y ops, ClSt S r w0 b bp bm cap a Qs y ops wr ∧ (y.1.it.sg = sg ∧ y.1.it.ff = ff ∧ y.1.it.op = op ∧ y.1.it.cl = true ∧ y.1.it.nd = nd)) ∧ KB B w wr) (fun _ wr => cellN wr bp a)
  case atStart => exact ⟨⟨Qs, y, ops, HH.out, HST.out⟩, KB.refl _ _⟩
  case round =>
    clear HH HST
    obtain ⟨⟨Qs, y, ops, hC, hst⟩, hbw⟩ := hrel
    obtain ⟨n, D, ov, hP, hM⟩ := hC.st
    have HMM := Lib.hid hM
    clear hM
    have hya : (Qs ++ [y])[a]? = some y := by rw [List.getElem?_append_right (by rw [hC.len]; exact Nat.le_refl _), hC.len, Nat.sub_self]; rfl
    have hlen : (Qs ++ [y]).length = a + 1 := by rw [List.length_append, hC.len]; rfl
    obtain ⟨c0, c1, c2, bfz, hbl⟩ := hP.bcells
    obtain ⟨⟨r0, r1, r2, r3, r4, r5, r6, r7⟩, pfz, hbpl, hal⟩ := hP.pcells hya
    have hyb := hC.bds y (by simp)
    rw [hlen] at c0
    have hsm := hP.small
    have hln := hP.len
    rw [hlen] at hln
    have hbs := hbw.size
    have halt : (a : Int) < (a : Int) + 1 := by omega
    have HN : cellN wr bp a = y.1.it.n.toNat := by unfold cellN; rw [r5]
    have HNN := Lib.hid HN
    clear HN
    by_cases hn : 0 < y.1.it.n
    · have hff := hyb.n2 hn
      have hcan : canClose y.1.it = true := by simp [canClose, hst.1, hst.2.2.2.1, hsg, hn]
      obtain ⟨hasc, hops⟩ := run_ops hC.run
      have hops' : ∀ i ∈ ops, i < (Qs ++ [y]).length := fun i hi => by
        obtain ⟨p, hp, _⟩ := hops i hi
        have := (List.getElem?_eq_some_iff.1 hp).1
        rw [List.length_map] at this
        rw [List.length_append]; omega
      have hSat : ∀ i ∈ ops, ∀ p, (Qs.map Prod.fst)[i]? = some p → (SAt ((Qs ++ [y]).map Prod.fst) ops y.1.it.sg (y.1.it.op && y.1.it.cl) (y.1.it.ff.tmod 3) 2 0 i ↔ fitI p.it y.1.it = true) := fun i hi p hp => by
        obtain ⟨x, hx, rfl⟩ := map_fst_get hp
        have hx2 := (hC.bds x (List.mem_append_left _ (List.mem_of_getElem? hx))).n2
        obtain ⟨p2, hp2, hm⟩ := hops i hi
        rw [hp] at hp2
        cases hp2
        simp [mayOpen] at hm
        refine sat_fit (by omega) hi ?_ (by have := hx2 hm.2; omega)
        rw [List.map_append, List.getElem?_append_left (List.getElem?_eq_some_iff.1 hp).1]
        exact hp
      have hop := fun W (hb : Below wr.heap.size wr W) => opener_any (hP.below hb) hasc hops' y.1.it.sg (y.1.it.op && y.1.it.cl) (y.1.it.ff.tmod 3) (em_tmod _)
      have hki := fun W => kindOf_any y.1.it y.2.1 W
      unfold itV kV at hki
      have HOP := Lib.hid hop
      have HSA := Lib.hid hSat
      have HCC := Lib.hid hC
      have HPP := Lib.hid hP
      have HST := Lib.hid hst
      have HYB := Lib.hid hyb
      have HKI := Lib.hid hki
      have HA := Lib.hid (And.intro hasc hops)
      clear hop hSat hC hP hst hyb hki hasc hops
      unfold kindV at HOP HKI
      generalize y.1.it.ff.tmod 3 = rr at *
      go_wp2_with fail
      refine (HKI.out _).mono ?_
      rintro e w1 ⟨rfl, b1⟩
      have b1' : Below wr.heap.size wr w1 := b1
      clear b1
      go_wp2_with fail
      refine (HOP.out w1 b1').mono ?_
      rintro e w2 ⟨⟨v, rfl, hbest⟩, b2⟩
      have b2' : Below wr.heap.size wr w2 := b1'.then b2
      have HB2 := Lib.hid b2'
      have hs2 := b2'.size
      clear b2 b1' b2'
      rcases hbest with ⟨rfl, hno⟩ | ⟨i, rfl, hSi, hmx⟩
      · have HNO := Lib.hid hno
        clear hno
        go_wp2
        go_end0
        exact ⟨rfl, ⟨Qs, y, ops, ⟨⟨n, D, ov, HPP.out.below HB2.out, HMM.out⟩, HCC.out.run, HCC.out.bds, HCC.out.bg, HCC.out.len⟩, HST.out, fun _ k hk p hp => by
          cases hf : fitI p.it y.1.it with
          | false => rfl
          | true => exact absurd ((HSA.out k hk p hp).2 hf) (HNO.out k)⟩, hbw.thenB HB2.out (by omega)⟩
      · have hio : i ∈ ops := hSi.1
        obtain ⟨p, hp, hmo⟩ := HA.out.2 i hio
        obtain ⟨x, hx, rfl⟩ := map_fst_get hp
        have hxl := (List.getElem?_eq_some_iff.1 hx).1
        have hxb := HCC.out.bds x (List.mem_append_left _ (List.mem_of_getElem? hx))
        have hfit := (HSA.out i hio x.1 hp).1 hSi
        obtain ⟨o1, o2, hoo, ho2⟩ := split_at HA.out.1 hio
        have hxn : 0 < x.1.it.n := by simp [mayOpen] at hmo; exact hmo.2
        have hx' : (Qs ++ [y])[i]? = some x := by rw [List.getElem?_append_left hxl]; exact hx
        have hPw := HPP.out.below HB2.out
        have hrun := HCC.out.run
        have hasc := HA.out.1
        rw [hoo] at hPw hrun hops' hasc
        have hia : i < a := by have := HCC.out.len; omega
        have hrp := run_pair hrun hcan hp hfit (fun k hk q hq => by
          have hko : k ∈ ops := by rw [hoo]; simp [hk]
          cases hf : fitI q.it y.1.it with
          | false => rfl
          | true =>
            have h1 := hmx k ((HSA.out k hko q hq).2 hf)
            have h2 := ho2 k hk
            omega)
        have hpair := pair_any (B := B) hPw ⟨hB.1, hB.2.1, by omega, hB.2.2.2⟩ hops' hasc hx' hya hia ⟨hxn, hxb.n1⟩ ⟨hn, HYB.out.n1⟩ (by have := HYB.out.en; omega) (by have := hxb.bg; omega)
        have hkk := kOf_is x.1.it y.1.it hxn hn
        have HRP := Lib.hid hrp
        have HPA := Lib.hid hpair
        have HXB := Lib.hid hxb
        have hcn : ((i : Int) < 0) = False := by simp
        have HOO := Lib.hid hoo
        clear hSi hmx hp hfit hoo ho2 hPw hrun hops' hasc hrp hpair hxb hio hmo
        go_wp2_with fail
        refine HPA.out.mono ?_
        rintro e w3 ⟨rfl, ⟨n3, D3, ov3, bv3, h3, hM3⟩, b3⟩
        have HM3 := Lib.hid hM3
        clear hM3
        have hset : ((Qs ++ [y]).set i (pairX x (kOf x.1.it y.1.it) bv3)).set a (pairY y (kOf x.1.it y.1.it)) = Qs.set i (pairX x (kOf x.1.it y.1.it) bv3) ++ [pairY y (kOf x.1.it y.1.it)] := by
          rw [List.set_append_left _ _ hxl, List.set_append_right _ _ (by rw [List.length_set, HCC.out.len]; exact Nat.le_refl _), List.length_set, HCC.out.len, Nat.sub_self]
          rfl
        rw [hset] at h3
        have hcell := (h3.pcells (k := a) (x := pairY y (kOf x.1.it y.1.it)) (by rw [List.getElem?_append_right (by rw [List.length_set, HCC.out.len]; exact Nat.le_refl _), List.length_set, HCC.out.len, Nat.sub_self]; rfl)).1.2.2.2.2.2.1
        have HC3 := Lib.hid hcell
        have HH3 := Lib.hid h3
        have HB3 := Lib.hid ((hbw.thenB HB2.out (show B ≤ _ by omega)).trans b3)
        clear h3 hcell hset b3
        go_wp2
        go_roundw
        case rel =>
          refine ⟨⟨_, _, _, ⟨⟨n3, D3, ov3, HH3.out, Nat.le_trans HM3.out (by rw [← HOO.out]; exact HMM.out)⟩, ?_, ?_, HCC.out.bg, by rw [List.length_set]; exact HCC.out.len⟩, HST.out⟩, HB3.out⟩
          · rw [List.map_set]
            exact HRP.out
          · intro z hz
            rcases List.mem_append.1 hz with hz | hz
            · rcases mem_set_ne hz with rfl | ⟨m, _, hz⟩
              · exact HXB.out.pairX hkk.1 hkk.2.1 _
              · exact HCC.out.bds z (List.mem_append_left _ (List.mem_of_getElem? hz))
            · rw [List.mem_singleton] at hz
              subst hz
              exact HYB.out.pairY hkk.1 hkk.2.2
        case measure =>
          rw [HNN.out]
          have h1 : cellN w3 bp a = (y.1.it.n - kOf x.1.it y.1.it).toNat := by unfold cellN; rw [HC3.out]; rfl
          rw [h1]
          omega
    · have hn0 : y.1.it.n ≤ 0 := by omega
      have HCC := Lib.hid hC
      have HST := Lib.hid hst
      clear hC hst hP hyb
      go_wp2
      go_end0
      exact ⟨rfl, ⟨Qs, y, ops, HCC.out, HST.out, fun h => absurd (canClose_pos h).1 (by omega)⟩, hbw⟩

end Go.Proofs.Ytoomkhmmgjiniaa

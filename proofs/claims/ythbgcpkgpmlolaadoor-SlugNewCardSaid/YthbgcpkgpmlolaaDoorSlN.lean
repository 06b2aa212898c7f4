/-
  The laws of the layer slug: SlugNew.
-/
import Derived.Test.YthbgcpkgpmlolaaDoorSlG
namespace Go.Proofs.YthbgcpkgpmlolaaDoor
open Go.RowKit Go.Maps
set_option linter.unusedSimpArgs false
set_option linter.unusedVariables false
set_option maxRecDepth 100000

/-! ### A set of texts -/
def SetIs (D : SlDU) (had : List (List UInt8)) : Prop := IsMap D ∧ ∀ s : List UInt8, s.length ≤ maxLen → D.atKey (.string s) (.lit (.bool false)) = .lit (.bool (decide (s ∈ had)))
theorem SetIs.nil : SetIs (.map []) [] := ⟨isMap_empty, fun s _ => rfl⟩
theorem SetIs.put {D : SlDU} {had : List (List UInt8)} (h : SetIs D had) {id : List UInt8} (hid : id.length ≤ maxLen) : SetIs (D.put (.string id) (.lit (.bool true))) (had ++ [id]) := by
  have hk := slIsKey id hid
  refine ⟨h.1.put _ _, fun s hs => ?_⟩
  by_cases e : s = id
  · subst e; rw [atKey_put_same h.1 hk]; simp
  · rw [atKey_put_other (lit_ne e), h.2 s hs]; simp [e]
abbrev SbMap (w : World) (g n : Nat) (D : SlDU) : Prop := w.ownsMap Tryd.prog 9 (plainElem (H := Unit) Tryd.prog 4) g n D
theorem sbMap_block {w w' : World} {g n : Nat} {D : SlDU} (h : SbMap w g n D) (e : w'.heap[g]? = w.heap[g]?) : SbMap w' g n D := by
  obtain ⟨es, cl, hb, r⟩ := h
  exact ⟨es, cl, e.trans hb, r⟩
theorem sbZero (w : World) : (zeroValue 4).run Tryd.prog w = .ok (.bool false) w := by kernel_rfl
theorem sbLook {w : World} {g n : Nat} {D : SlDU} {had : List (List UInt8)} (h : SbMap w g n D) (hs : SetIs D had) (id : List UInt8) (hid : id.length ≤ maxLen) :
    (Instr.lookup 33 (.map (some g)) (.string ⟨id.toArray⟩) false).run Tryd.prog w = .ok (.bool (decide (id ∈ had))) w := by
  obtain ⟨v, ps, hrun, hv⟩ := h.lookup slLaw Tryd.underlying33 (sbZero w) (zd := .lit (.bool false)) (zp := []) (plainElem_bool Tryd.underlying4 false) (slKey id hid)
  rw [hs.2 id hid] at hv
  unfold plainElem at hv
  rw [Tryd.underlying4] at hv
  cases v <;> simp at hv
  rw [hv.1] at hrun
  exact hrun
theorem AncIs.grown {w w' : World} {B b : Nat} {m : Value} {had : List (List UInt8)} (h : AncIs w B b m had) {g : Nat} (hg : w.grownBy w' (some g)) (hb : b ≠ g) (hm : m ≠ .map (some g)) : AncIs w' B b m had := by
  refine ⟨(hg.block b (Array.getElem?_eq_some_iff.1 h.blk).1 (fun e => hb (by injection e))).trans h.blk, h.base, ?_⟩
  rcases h.map with h1 | ⟨g', n, D, e, hg', hm', r⟩
  · exact .inl h1
  · exact .inr ⟨g', n, D, e, hg', slMap_block hm' (hg.block g' hm'.lt (fun e2 => hm (by rw [e]; injection e2 with e2; rw [e2]))), r⟩
/-- The bytes of a new anchor. -/
theorem new_bytes {nx : List UInt8} (h : nx ≠ [] ∧ (∀ b ∈ nx, slKeep b = true ∨ b = 45) ∧ nx.headD 0 ≠ 45 ∧ nx.getLastD 0 ≠ 45 ∧ nx.length ≤ 43) :
    ∃ n, (⟨nx.toArray⟩ : ByteArray).size = n + 1 ∧ n ≤ 42 ∧ (∀ h0 : 0 < (⟨nx.toArray⟩ : ByteArray).size, (((⟨nx.toArray⟩ : ByteArray)[0].toNat : Int) == 45) = false) ∧ (∀ hn : n < (⟨nx.toArray⟩ : ByteArray).size, (((⟨nx.toArray⟩ : ByteArray)[n].toNat : Int) == 45) = false) ∧
      ∀ (j : Nat) (hj : j < (⟨nx.toArray⟩ : ByteArray).size), slKeep (⟨nx.toArray⟩ : ByteArray)[j] = true ∨ (⟨nx.toArray⟩ : ByteArray)[j] = 45 := by
  obtain ⟨h1, h2, h3, h4, h5⟩ := h
  obtain ⟨p, z, hpz⟩ := snoc_of h1
  have hs : (⟨nx.toArray⟩ : ByteArray).size = nx.length := str_size _
  have hl : nx.length = p.length + 1 := by rw [hpz]; simp
  refine ⟨p.length, by omega, by omega, fun h0 => ?_, fun hn => ?_, fun j hj => ?_⟩
  · rw [eq45]
    cases nx with
    | nil => exact absurd rfl h1
    | cons c t =>
      show (c == 45) = false
      simpa using h3
  · rw [eq45, last_at (v := ⟨nx.toArray⟩) (p := p) (z := z) hpz hn]
    rw [hpz, getLastD_snoc] at h4
    simpa using h4
  · exact h2 _ (List.getElem_mem (l := nx) (by omega))
def NewRel (w : World) (b gm len : Nat) (i : Value) (wr : World) : Prop := ∃ (k n : Nat) (m : Value) (had : List (List UInt8)) (D : SlDU), i = .int .i64 k ∧ k ≤ len ∧ had.length = k ∧ n ≤ k ∧ AncIs wr w.heap.size b m had ∧ m ≠ .map (some gm) ∧ SbMap wr gm n D ∧ SetIs D had ∧ Below w.heap.size w wr
theorem slKeep_how {b : UInt8} (h : slKeep b = true ∨ b = 45) : (97 ≤ (b.toNat : Int) ∧ (b.toNat : Int) ≤ 122) ∨ ((b.toNat : Int) < 97 ∧ 48 ≤ (b.toNat : Int) ∧ (b.toNat : Int) ≤ 57) ∨ ((b.toNat : Int) = 45) := by
  rcases h with h | rfl
  · simp [slKeep] at h; omega
  · exact .inr (.inr rfl)

set_option maxHeartbeats 8000000 in
theorem slugNew_walk (w : World) (h7 : SlW w) (A0 : Option Addr) (c0 : Nat) (z0 : List ByteArray) (r0 : RowOf w A0 c0 (z0.map Value.string)) (w0 : ∀ s ∈ z0, s.size ≤ maxLen) :
    Calls Tryd.prog 4 #[.slice A0 z0.length c0] w fun e w' => e = .returned (.bool true) ∧ Below w.heap.size w w' := by
  have CA := Lib.hid (alive16_any w)
  have hle : z0.length ≤ c0 := by have := r0.1; simpa using this
  have hcap := r0.2.1
  unfold maxLen at hcap
  clear w0
  by_cases hz : 40 < z0.length
  · go_enter Tryd.func4, Tryd.ntmps4
    go_wp2_with fail
    refine CA.out.mono ?_
    rintro e w1 ⟨rfl, b1⟩
    go_wp2
    go_ret
    exact ⟨rfl, b1⟩
  · have hz0 : z0.length ≤ 40 := by omega
    clear hz
    have R0 := Lib.hid r0
    clear r0
    have hmm := @run_makeMap Tryd.prog
    go_enter Tryd.func4, Tryd.ntmps4
    go_wp2_with fail
    refine CA.out.mono ?_
    rintro e w1 ⟨rfl, b1⟩
    have hsz1 := b1.size
    have h0 : AncIs (w1.alloc (.cells #[.map none] 27)) w.heap.size w1.heap.size (.map none) [] := AncIs.new (heap_alloc_new _ _) hsz1
    have HH := Lib.hid (h0.below ((Below.refl _ _).alloc (Nat.le_refl _) (.map #[] 0)))
    have hm0 : SbMap ((w1.alloc (.cells #[.map none] 27)).alloc (.map #[] 0)) (w1.heap.size + 1) 0 (.map []) := by
      have := World.ownsMap_made (w1.alloc (.cells #[.map none] 27)) Tryd.prog 9 (plainElem (H := Unit) Tryd.prog 4)
      rwa [alloc_size] at this
    have b0 := b1.alloc hsz1 (.cells #[.map none] 27)
    have HB := Lib.hid (b0.alloc b0.size (.map #[] 0))
    have HM0 := Lib.hid hm0
    clear h0 b0 hm0 b1
    go_wp2_with fail
    go_loopw [22] (fun i wr => NewRel w w1.heap.size (w1.heap.size + 1) z0.length i wr) (fun i _ => z0.length - (intOf i).toNat)
    case atStart => exact ⟨0, 0, _, _, _, rfl, Nat.zero_le _, rfl, Nat.le_refl _, HH.out, by simp, HM0.out, SetIs.nil, HB.out⟩
    case round =>
      obtain ⟨k, n, m, had, D, rfl, hk, hhk, hn, ha, hmg, hsb, hsi, hbw⟩ := hrel
      clear hmm
      by_cases hlt : k < z0.length
      · obtain ⟨bb, off, hAe, hb2, hc⟩ := (R0.out.below hbw).at (by intro e; rw [List.map_eq_nil_iff.1 e] at hlt; simp at hlt)
        have hck := hc k (by simpa using hlt)
        rw [List.getElem_map] at hck
        subst hAe
        clear hc
        generalize hx0 : z0[k] = x at *
        clear hx0
        by_cases hx1 : 100 < x.size
        · have HBW := Lib.hid hbw
          clear hbw ha hsb hsi
          go_wp2
          go_ret
          exact ⟨rfl, HBW.out⟩
        · have hx2 : x.size ≤ 100 := by omega
          clear hx1
          have hgm : w1.heap.size + 1 < wr.heap.size := by obtain ⟨es, cl, hh, _⟩ := hsb; exact (Array.getElem?_eq_some_iff.1 hh).1
          have cn := next_any hbw.size ha x (by omega) (by omega)
          have hok := slNext_ok had x.data.toList (by omega)
          have hnew := slNext_new had x.data.toList (by omega)
          generalize slNext had x.data.toList = nx at *
          have hnl : nx.length ≤ maxLen := by unfold maxLen; have := hok.2.2.2.2; omega
          obtain ⟨n1, hX1, hX2, hX3, hX4, hX5⟩ := new_bytes hok
          have CN := Lib.hid cn
          have HBW := Lib.hid hbw
          have HSB := Lib.hid hsb
          have HSI := Lib.hid hsi
          clear cn hbw ha hsb hsi hok
          go_wp2_with fail
          refine CN.out.mono ?_
          rintro e w5 ⟨rfl, ⟨m5, h5, hm5⟩, ht5, b5⟩
          have hsb5 := sbMap_block HSB.out (ht5.rest _ hgm (by omega) hmg)
          have hlk := sbLook hsb5 HSI.out nx hnl
          rw [decide_eq_false hnew] at hlk
          have hmg5 : m5 ≠ .map (some (w1.heap.size + 1)) := fun e => by
            rcases hm5 _ e with e2 | e2
            · exact hmg e2
            · omega
          obtain ⟨w6, hup, hm6, hg6⟩ := hsb5.update slLaw Tryd.underlying33 (by unfold maxLen; omega) (slKey nx hnl) (val := .bool true) (plainElem_bool Tryd.underlying4 true)
          have h6 := h5.grown hg6 (by omega) hmg5
          have b6 : Below w.heap.size wr w6 := b5.grown hg6 (by have := b5.size; have := HBW.out.size; omega) (fun x e => by injection e with e; omega)
          have HREL := Lib.hid (⟨k + 1, n + 1, m5, had ++ [nx], _, rfl, by omega, by simp; omega, by omega, h6, hmg5, hm6, HSI.out.put hnl, HBW.out.trans b6⟩ : NewRel w w1.heap.size (w1.heap.size + 1) z0.length (.int .i64 ((k + 1 : Nat) : Int)) w6)
          clear h5 hm5 ht5 b5 hsb5 hmg5 hm6 hg6 h6 b6 hnew CN HSB HSI
          generalize (⟨nx.toArray⟩ : ByteArray) = X at *
          have hX0 : 0 < X.size := by omega
          have hXn : n1 < X.size := by omega
          have hX3' := hX3 hX0
          have hX4' := hX4 hXn
          have hXm : (X.size : Int) - 1 = (n1 : Int) := by omega
          have e1 := toList_ne hX0
          have e2 := toList_empty hX0
          have HX5 := Lib.hid hX5
          clear hX3 hX4 hX5
          go_wp2_with fail
          clear e1 e2
          go_loop [8] (fun v => ∃ j : Nat, v = .int .i64 j ∧ j ≤ X.size) (fun v => X.size - (intOf v).toNat)
          case atStart => exact ⟨0, rfl, Nat.zero_le _⟩
          case round =>
            obtain ⟨j, rfl, hj⟩ := hrel
            by_cases hjl : j < X.size
            · have hb := slKeep_how (HX5.out j hjl)
              rcases hb with ⟨g1, g2⟩ | ⟨g1, g2, g3⟩ | g1
              · go_wp2
                all_goals first
                  | exact ⟨⟨j + 1, by go_num, by omega⟩, by simp only [intOf]; omega⟩
                  | (go_round
                     case rel => exact ⟨j + 1, by go_num, by omega⟩
                     case measure => simp [intOf]; omega)
              · go_wp2
                all_goals first
                  | exact ⟨⟨j + 1, by go_num, by omega⟩, by simp only [intOf]; omega⟩
                  | (go_round
                     case rel => exact ⟨j + 1, by go_num, by omega⟩
                     case measure => simp [intOf]; omega)
              · have g2 : ((X[j].toNat : Int) == 45) = true := by rw [g1]; rfl
                have g3 : decide (97 ≤ (X[j].toNat : Int)) = false := by simp; omega
                have g4 : decide (48 ≤ (X[j].toNat : Int)) = false := by simp; omega
                go_wp2
                all_goals first
                  | exact ⟨⟨j + 1, by go_num, by omega⟩, by simp only [intOf]; omega⟩
                  | (go_round
                     case rel => exact ⟨j + 1, by go_num, by omega⟩
                     case measure => simp [intOf]; omega)
            · have hge : j = X.size := by omega
              go_wp2
              all_goals first
                | exact ⟨HREL.out, by simp only [intOf]; omega⟩
                | (go_round
                   case rel => exact HREL.out
                   case measure => simp [intOf]; omega)
      · have hge : k = z0.length := by omega
        have HBW := Lib.hid hbw
        clear hbw ha hsb hsi
        go_wp2
        go_ret
        exact ⟨rfl, HBW.out⟩

end Go.Proofs.YthbgcpkgpmlolaaDoor

/-
  Package token: row, lineEnd, word, atom, escaped.
-/
import Derived.Test.YtggdpmaomhmobaaGreatDoorTkB
import Derived.Laws.ResultCell
namespace Go.Proofs.YtggdpmaomhmobaaGreatDoor
open Go.RowKit
set_option linter.unusedSimpArgs false
set_option linter.unusedVariables false

theorem kind_of {g : Nat} {p : UInt8 → Bool} (w : World) (h : ∀ (b : UInt8) (W : World), Calls Tryz.prog g #[.int .u8 b.toNat] W fun e w' => e = .returned (.bool (p b)) ∧ W = w') : KindAt g #[] p w :=
  fun W b _ => by rw [Array.append_empty]; exact h b W
theorem kDigit (w : World) : KindAt 34 #[] tkDigit w := kind_of w fun b W => tkDigit_any _ W
theorem kBlank (w : World) : KindAt 37 #[] tkBlank w := kind_of w fun b W => tkBlank_any _ W
theorem kInTag (w : World) : KindAt 61 #[] tkInTag w := kind_of w fun b W => tkInTag_any _ W
theorem kUrl (w : World) : KindAt 57 #[] tkUrl w := kind_of w fun b W => tkUrl_any _ W
theorem kTagName (w : World) : KindAt 60 #[] tkTagName w := kind_of w fun b W => tkTagName_any _ W
theorem kScheme (w : World) : KindAt 55 #[] tkScheme w := kind_of w fun b W => tkScheme_any _ W
theorem kHost (w : World) : KindAt 59 #[] tkHost w := kind_of w fun b W => tkHost_any _ W
theorem kMail (w : World) : KindAt 58 #[] tkMail w := kind_of w fun b W => tkMail_any _ W
theorem kWord (w : World) : KindAt 33 #[] tkWord w := kind_of w fun b W => tkWord_any b W
theorem eq_byte (a b : UInt8) : ((a.toNat : Int) == (b.toNat : Int)) = (a == b) := by
  rw [Bool.eq_iff_iff]
  simp only [beq_iff_eq]
  exact ⟨fun e => UInt8.toNat_inj.1 (by omega), fun e => by rw [e]⟩
theorem kIs32 (w : World) : KindAt 47 #[] (fun b => b == 32) w := kind_of w fun b W => by
  have e := eq_byte b 32
  rw [show (((32 : UInt8).toNat : Nat) : Int) = 32 from rfl] at e
  cases h : (b == 32) with
  | true =>
    rw [h] at e
    go_enter Tryz.func47, Tryz.ntmps47
    go_wp2
    go_ret
    exact ⟨rfl, rfl⟩
  | false =>
    rw [h] at e
    go_enter Tryz.func47, Tryz.ntmps47
    go_wp2
    go_ret
    exact ⟨rfl, rfl⟩
theorem kRow (s : ByteArray) (h0 : 0 < s.size) (b : Nat) (w : World) (hb : b < w.heap.size) (hc : w.cell? ⟨b, 0, none⟩ = some (.string s)) :
    KindAt 45 #[.pointer (some ⟨b, 0, none⟩)] (fun x => x == s.data.toList.headD 0) w := fun W x hw => by
  have hcell : W.cell? ⟨b, 0, none⟩ = some (.string s) := by rw [hw.cell (p := ⟨b, 0, none⟩) hb]; exact hc
  have e := eq_byte x s[0]
  have hh : s.data.toList.headD 0 = s[0] := by
    rw [show s.data.toList = s[0] :: s.data.toList.drop 1 from by have := get_list s 0 h0; rwa [List.drop_zero] at this]
    rfl
  rw [hh]
  clear hh hc hw
  show Calls _ _ #[.int .u8 x.toNat, .pointer (some ⟨b, 0, none⟩)] _ _
  cases h : (x == s[0]) with
  | true =>
    rw [h] at e
    go_enter Tryz.func45, Tryz.ntmps45
    go_wp2
    go_ret
    exact ⟨ret_bool h.symm, rfl⟩
  | false =>
    rw [h] at e
    go_enter Tryz.func45, Tryz.ntmps45
    go_wp2
    go_ret
    exact ⟨ret_bool h.symm, rfl⟩

theorem row_any (s : ByteArray) (h0 : 0 < s.size) (w : World) (hs : s.size ≤ 35184372088832) :
    Calls Tryz.prog 29 #[.string s] w fun e w' => e = .returned (.int .i64 (rowL s.data.toList)) ∧ Below w.heap.size w w' := by
  have hmf : ∀ (fn : Fn) (first cap : Array Value) (w : World), (Instr.makeFunc fn first cap).run Tryz.prog w = .ok (.func fn first cap) w := fun _ _ _ _ => rfl
  have hk := kRow s h0 w.heap.size (w.alloc (.cells #[.string s] 9)) (by rw [alloc_size]; omega) (cells_one w (.string s) 9 0 _ rfl)
  have c1 := past_any s 1 45 #[.pointer (some ⟨w.heap.size, 0, none⟩)] _ (w.alloc (.cells #[.string s] 9)) hs h0 (fun _ _ => by kernel_rfl) hk
  rw [show pastL (fun x => x == s.data.toList.headD 0) s.data.toList 1 = rowL s.data.toList from rfl] at c1
  have C1 := Lib.hid c1
  clear hk c1
  go_enter Tryz.func29, Tryz.ntmps29
  go_wp2_with (go_at_call 32; refine (C1.out).mono ?_; rintro e w1 ⟨rfl, b1⟩)
  go_ret
  exact ⟨rfl, ((Below.refl _ w).alloc (Nat.le_refl _) _).then b1⟩

/-- A struct of one field in a block of its own. -/
def OneAt (w : World) (g : Nat) (v : Value) (t : TypeId) : Prop := w.heap[g]? = some (.cells #[v] t (0, 0))
theorem OneAt.cells {w : World} {g : Nat} {v : Value} {t : TypeId} (h : OneAt w g v t) : w.cell? ⟨g, 0, none⟩ = some v ∧ w.frozen? ⟨g, 0, none⟩ = false := by
  unfold OneAt at h
  exact ⟨(cell_of_row w _ 0 _ _ (0, 0) h).trans rfl, by simp [World.frozen?, h]⟩
theorem OneAt.below {w w' : World} {g : Nat} {v : Value} {t : TypeId} (h : OneAt w g v t) (hb : Below w.heap.size w w') : OneAt w' g v t := by
  unfold OneAt at *
  rw [hb.block g (Array.getElem?_eq_some_iff.1 h).1]
  exact h
theorem OneAt.set {w : World} {g : Nat} {v : Value} {t : TypeId} (h : OneAt w g v t) (u : Value) : OneAt (w.setCell ⟨g, 0, none⟩ u) g u t := by
  unfold OneAt at *
  simp [World.setCell, Array.getElem?_modify, h]
theorem oneAt_new (w : World) (v : Value) (t : TypeId) : OneAt (w.alloc (.cells #[v] t)) w.heap.size v t := heap_alloc_new w _
theorem ret_brk {fn : Func} {p u : Tmp} (hres : fn.results = #[.cell p 52, .tmp u]) {W : World} {g : Nat} {b c : Value} (h : OneAt W g b 52) {tmps : Array Value} (h2 : tmps.getD p undef = .pointer (some ⟨g, 0, none⟩)) (h3 : tmps.getD u undef = c) :
    (results fn tmps).run Tryz.prog W = .ok (.tuple #[.agg #[b], c]) W := by
  obtain ⟨c0, _⟩ := h.cells
  rw [results_cell_tmp hres, h2, h3]
  go_simp
theorem ret_mark {fn : Func} {p u : Tmp} (hres : fn.results = #[.cell p 50, .tmp u]) {W : World} {g : Nat} {b c : Value} (h : OneAt W g b 50) {tmps : Array Value} (h2 : tmps.getD p undef = .pointer (some ⟨g, 0, none⟩)) (h3 : tmps.getD u undef = c) :
    (results fn tmps).run Tryz.prog W = .ok (.tuple #[.agg #[b], c]) W := by
  obtain ⟨c0, _⟩ := h.cells
  rw [results_cell_tmp hres, h2, h3]
  go_simp
theorem ret_atom {fn : Func} {p u : Tmp} (hres : fn.results = #[.cell p 54, .tmp u]) {W : World} {g : Nat} {b c : Value} (h : OneAt W g b 54) {tmps : Array Value} (h2 : tmps.getD p undef = .pointer (some ⟨g, 0, none⟩)) (h3 : tmps.getD u undef = c) :
    (results fn tmps).run Tryz.prog W = .ok (.tuple #[.agg #[b], c]) W := by
  obtain ⟨c0, _⟩ := h.cells
  rw [results_cell_tmp hres, h2, h3]
  go_simp

/-- The end of a line: blanks, an LF, blanks. -/
def brkV (x : Tk × Nat) : Value := .tuple #[.agg #[.bool (x.1 == .brk true)], .int .i64 x.2]
theorem size_len' (S : ByteArray) : S.data.toList.length = S.size := by simp
set_option maxHeartbeats 1000000 in
theorem lineEnd_any (s : ByteArray) (w : World) (hs : s.size ≤ 35184372088832) :
    Calls Tryz.prog 31 #[.string s] w fun e w' => e = .returned (brkV (lineTk s.data.toList)) ∧ Below w.heap.size w w' := by
  have hle := pastL_le (fun b => b == 32) s.data.toList 0 (Nat.zero_le _)
  rw [size_len'] at hle
  have c1 := fun W => past_any s 0 47 #[] _ W hs (Nat.zero_le _) (fun _ _ => by kernel_rfl) (kIs32 W)
  have HL := Lib.hid (show lineTk s.data.toList = if hasL s.data.toList (pastL (fun b => b == 32) s.data.toList 0) 10 = false then (.brk false, 0) else (.brk (decide (2 ≤ pastL (fun b => b == 32) s.data.toList 0)), pastL tkBlank s.data.toList (pastL (fun b => b == 32) s.data.toList 0 + 1)) from rfl)
  generalize pastL (fun b => b == 32) s.data.toList 0 = k at *
  have c2 := fun W => has_any s k 10 W hs (by omega)
  have HB0 := Lib.hid (show Below w.heap.size w (w.alloc (.cells #[.bool false] 52)) from (Below.refl _ w).alloc (Nat.le_refl _) _)
  have HZ0 := Lib.hid (oneAt_new w (.bool false) 52)
  cases hh : hasL s.data.toList k 10 with
  | false =>
    rw [hh] at c2
    have HR := Lib.hid (show lineTk s.data.toList = (.brk false, 0) from by rw [HL.out, hh]; rfl)
    have C1 := Lib.hid c1
    have C2 := Lib.hid c2
    clear c1 c2 HL hh
    go_enter Tryz.func31, Tryz.ntmps31
    go_wp2_with fail
    refine (C1.out _).mono ?_
    rintro e w1 ⟨rfl, b1⟩
    have HB1 := Lib.hid (HB0.out.then b1)
    have hz1 := HZ0.out.below b1
    have hst := hz1.set (.bool false)
    obtain ⟨k0, k1⟩ := hz1.cells
    have HS := Lib.hid hst
    clear b1 hst hz1
    go_wp2_with fail
    refine (C2.out _).mono ?_
    rintro e w2 ⟨rfl, rfl⟩
    go_wp2
    (try simp only [Exit.inBlock, Exit.then])
    refine bodyPost_ret (v := brkV (.brk false, 0)) (ret_brk rfl HS.out rfl rfl) rfl ⟨by rw [HR.out], HB1.out.setCell (Nat.le_refl _) _⟩
  | true =>
    rw [hh] at c2
    have hlt := hasL_lt hh
    rw [size_len'] at hlt
    have c3 := fun W => past_any s (k + 1) 37 #[] _ W hs hlt (fun _ _ => by kernel_rfl) (kBlank W)
    have HR := Lib.hid (show lineTk s.data.toList = (.brk (decide (2 ≤ k)), pastL tkBlank s.data.toList (k + 1)) from by rw [HL.out, hh]; rfl)
    generalize pastL tkBlank s.data.toList (k + 1) = z at *
    have C1 := Lib.hid c1
    have C2 := Lib.hid c2
    have C3 := Lib.hid c3
    clear c1 c2 c3 HL hh
    obtain ⟨h2, hh2⟩ : ∃ h2, decide (2 ≤ k) = h2 := ⟨_, rfl⟩
    have f2 : decide ((2 : Int) ≤ (k : Int)) = h2 := by rw [← hh2]; simp; omega
    rw [hh2] at HR
    clear hh2
    go_enter Tryz.func31, Tryz.ntmps31
    go_wp2_with fail
    refine (C1.out _).mono ?_
    rintro e w1 ⟨rfl, b1⟩
    have HB1 := Lib.hid (HB0.out.then b1)
    have hz1 := HZ0.out.below b1
    clear b1
    go_wp2_with fail
    refine (C2.out _).mono ?_
    rintro e w2 ⟨rfl, rfl⟩
    go_wp2_with fail
    refine (C3.out _).mono ?_
    rintro e w3 ⟨rfl, b3⟩
    have HB3 := Lib.hid (HB1.out.then b3)
    have hz3 := hz1.below b3
    have hst := hz3.set (.bool h2)
    obtain ⟨k0, k1⟩ := hz3.cells
    have HS := Lib.hid hst
    clear b3 hst hz3 hz1
    go_wp2
    (try simp only [Exit.inBlock, Exit.then])
    refine bodyPost_ret (v := brkV (.brk h2, z)) ?_ rfl ⟨by rw [HR.out], HB3.out.setCell (Nat.le_refl _) _⟩
    cases h2 <;> exact ret_brk rfl HS.out rfl rfl

end Go.Proofs.YtggdpmaomhmobaaGreatDoor

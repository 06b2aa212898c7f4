/-
  Package token: first, Next.
-/
import Derived.Test.YtggdpmaomhmobaaGreatDoorTkF
namespace Go.Proofs.YtggdpmaomhmobaaGreatDoor
open Go.RowKit
set_option linter.unusedSimpArgs false
set_option linter.unusedVariables false
set_option maxRecDepth 100000

/-- What the walks ask: both tables, and the library's variable. -/
def TkW (w : World) : Prop := NamedIs w ∧ MarksIs w ∧ MaxL w
theorem TkW.below {w w' : World} (h : TkW w) (hb : Below w.heap.size w w') : TkW w' := ⟨h.1.below hb, h.2.1.below hb, h.2.2.below hb⟩

theorem markTk_mark (l : List UInt8) : ∃ t, (markTk l).1 = .mark t := by
  unfold markTk
  split
  · exact ⟨_, rfl⟩
  · split
    · exact ⟨_, rfl⟩
    · split
      · exact ⟨_, rfl⟩
      · exact ⟨_, rfl⟩
theorem lineTk_brk (l : List UInt8) : ∃ t, (lineTk l).1 = .brk t := by
  unfold lineTk
  simp only
  split
  · exact ⟨_, rfl⟩
  · exact ⟨_, rfl⟩
theorem atomL_atom (l : List UInt8) : ∃ t, (atomL l).1 = .atom t := by
  unfold atomL
  simp only
  split
  · exact ⟨_, rfl⟩
  · exact ⟨_, rfl⟩

/-- The bytes at which a sign may stand. -/
def sigs : List UInt8 := [0, 92, 38, 96, 60, 42, 95, 33, 91, 93, 32, 10]
theorem first_at (l : List UInt8) (c : UInt8) (h : l.headD 1 = c) : firstTk l = if c = 0 then atomL l
  else if c = 92 then escapedL l
  else if c = 38 then namedTk l
  else if c = 96 then codeL l
  else if c = 60 then pointedL l
  else if c = 42 ∨ c = 95 then (.run c (rowL l), rowL l)
  else if c = 33 ∨ c = 91 ∨ c = 93 then markTk l
  else if c = 32 ∨ c = 10 then lineTk l
  else (.no, 0) := by subst h; rfl

set_option maxHeartbeats 4000000 in
theorem first_any (s : ByteArray) (h0 : 0 < s.size) (w : World) (hw : TkW w) (hs : s.size ≤ 4000000000) :
    Calls Tryz.prog 20 #[.string s] w fun e w' => e = .returned (tkR (firstTk s.data.toList)) ∧ Below w.heap.size w w' := by
  have HF := Lib.hid (first_at s.data.toList s[0] (get0 s h0))
  by_cases e0 : s[0] = 0
  · have hc := atom_any s h0 w (by omega)
    obtain ⟨t, ht⟩ := atomL_atom s.data.toList
    have HR := Lib.hid (show firstTk s.data.toList = (.atom t, (atomL s.data.toList).2) from by rw [HF.out, e0]; exact Prod.ext ht rfl)
    unfold atomV at hc
    rw [ht] at hc
    generalize (atomL s.data.toList).2 = n at *
    have f0 : ((s[0].toNat : Int) == 0) = true := by rw [e0]; decide
    have C := Lib.hid hc
    clear hc HF hw ht e0
    go_enter Tryz.func20, Tryz.ntmps20
    go_wp2_with fail
    refine C.out.mono ?_
    rintro e w1 ⟨rfl, b1⟩
    go_wp2
    go_ret2
    exact ⟨by rw [HR.out]; rfl, b1⟩
  · by_cases e92 : s[0] = 92
    · have hc := escaped_tk s h0 w (by omega)
      have HR := Lib.hid (show firstTk s.data.toList = escapedL s.data.toList from by rw [HF.out, e92]; rfl)
      generalize escapedL s.data.toList = n at *
      obtain ⟨t, n⟩ := n
      unfold tkR at hc
      simp only at hc
      have HV := Lib.hid (show tkR (t, n) = .tuple #[tkV t, .int .i64 n] from rfl)
      generalize tkV t = v at *
      have f0 : ((s[0].toNat : Int) == 0) = false := by rw [e92]; decide
      have f92 : ((s[0].toNat : Int) == 92) = true := by rw [e92]; decide
      have C := Lib.hid hc
      clear hc HF hw e92 e0
      go_enter Tryz.func20, Tryz.ntmps20
      go_wp2_with fail
      refine C.out.mono ?_
      rintro e w1 ⟨rfl, b1⟩
      go_wp2
      go_ret2
      exact ⟨by rw [HR.out, HV.out]; rfl, b1⟩
    · by_cases e38 : s[0] = 38
      · have hc := named_tk s w hw.1 (by omega)
        have HR := Lib.hid (show firstTk s.data.toList = (.word (atL s.data.toList).1.data.toList, (atL s.data.toList).2) from by rw [HF.out, e38]; rfl)
        generalize atL s.data.toList = n at *
        obtain ⟨t, n⟩ := n
        simp only at hc HR
        have f0 : ((s[0].toNat : Int) == 0) = false := by rw [e38]; decide
        have f92 : ((s[0].toNat : Int) == 92) = false := by rw [e38]; decide
        have f38 : ((s[0].toNat : Int) == 38) = true := by rw [e38]; decide
        have C := Lib.hid hc
        clear hc HF hw e38 e0 e92
        go_enter Tryz.func20, Tryz.ntmps20
        go_wp2_with fail
        refine C.out.mono ?_
        rintro e w1 ⟨rfl, b1⟩
        go_wp2
        go_ret2
        exact ⟨by rw [HR.out]; rfl, b1⟩
      · by_cases e96 : s[0] = 96
        · have hc := code_any s h0 w hw.2.2 hs
          have HR := Lib.hid (show firstTk s.data.toList = codeL s.data.toList from by rw [HF.out, e96]; rfl)
          generalize codeL s.data.toList = n at *
          obtain ⟨t, n⟩ := n
          unfold tkR at hc
          simp only at hc
          have HV := Lib.hid (show tkR (t, n) = .tuple #[tkV t, .int .i64 n] from rfl)
          generalize tkV t = v at *
          have f0 : ((s[0].toNat : Int) == 0) = false := by rw [e96]; decide
          have f92 : ((s[0].toNat : Int) == 92) = false := by rw [e96]; decide
          have f38 : ((s[0].toNat : Int) == 38) = false := by rw [e96]; decide
          have f96 : ((s[0].toNat : Int) == 96) = true := by rw [e96]; decide
          have C := Lib.hid hc
          clear hc HF hw e96 e0 e92 e38
          go_enter Tryz.func20, Tryz.ntmps20
          go_wp2_with fail
          refine C.out.mono ?_
          rintro e w1 ⟨rfl, b1⟩
          go_wp2
          go_ret2
          exact ⟨by rw [HR.out, HV.out]; rfl, b1⟩
        · by_cases e60 : s[0] = 60
          · have hc := pointed_any s h0 w (by omega)
            have HR := Lib.hid (show firstTk s.data.toList = pointedL s.data.toList from by rw [HF.out, e60]; rfl)
            generalize pointedL s.data.toList = n at *
            obtain ⟨t, n⟩ := n
            unfold tkR at hc
            simp only at hc
            have HV := Lib.hid (show tkR (t, n) = .tuple #[tkV t, .int .i64 n] from rfl)
            generalize tkV t = v at *
            have f0 : ((s[0].toNat : Int) == 0) = false := by rw [e60]; decide
            have f92 : ((s[0].toNat : Int) == 92) = false := by rw [e60]; decide
            have f38 : ((s[0].toNat : Int) == 38) = false := by rw [e60]; decide
            have f96 : ((s[0].toNat : Int) == 96) = false := by rw [e60]; decide
            have f60 : ((s[0].toNat : Int) == 60) = true := by rw [e60]; decide
            have C := Lib.hid hc
            clear hc HF hw e60 e0 e92 e38 e96
            go_enter Tryz.func20, Tryz.ntmps20
            go_wp2_with fail
            refine C.out.mono ?_
            rintro e w1 ⟨rfl, b1⟩
            go_wp2
            go_ret2
            exact ⟨by rw [HR.out, HV.out]; rfl, b1⟩
          · by_cases e42 : s[0] = 42
            · have hc := row_any s h0 w (by omega)
              have HR := Lib.hid (show firstTk s.data.toList = (.run s[0] (rowL s.data.toList), rowL s.data.toList) from by rw [HF.out, e42]; rfl)
              generalize rowL s.data.toList = n at *
              have f0 : ((s[0].toNat : Int) == 0) = false := by rw [e42]; decide
              have f92 : ((s[0].toNat : Int) == 92) = false := by rw [e42]; decide
              have f38 : ((s[0].toNat : Int) == 38) = false := by rw [e42]; decide
              have f96 : ((s[0].toNat : Int) == 96) = false := by rw [e42]; decide
              have f60 : ((s[0].toNat : Int) == 60) = false := by rw [e42]; decide
              have f42 : ((s[0].toNat : Int) == 42) = true := by rw [e42]; decide
              have C := Lib.hid hc
              clear hc HF hw e42 e0 e92 e38 e96 e60
              go_enter Tryz.func20, Tryz.ntmps20
              go_wp2_with fail
              refine C.out.mono ?_
              rintro e w1 ⟨rfl, b1⟩
              go_wp2
              go_ret2
              exact ⟨by rw [HR.out]; rfl, b1⟩
            · by_cases e95 : s[0] = 95
              · have hc := row_any s h0 w (by omega)
                have HR := Lib.hid (show firstTk s.data.toList = (.run s[0] (rowL s.data.toList), rowL s.data.toList) from by rw [HF.out, e95]; rfl)
                generalize rowL s.data.toList = n at *
                have f0 : ((s[0].toNat : Int) == 0) = false := by rw [e95]; decide
                have f92 : ((s[0].toNat : Int) == 92) = false := by rw [e95]; decide
                have f38 : ((s[0].toNat : Int) == 38) = false := by rw [e95]; decide
                have f96 : ((s[0].toNat : Int) == 96) = false := by rw [e95]; decide
                have f60 : ((s[0].toNat : Int) == 60) = false := by rw [e95]; decide
                have f42 : ((s[0].toNat : Int) == 42) = false := by rw [e95]; decide
                have f95 : ((s[0].toNat : Int) == 95) = true := by rw [e95]; decide
                have C := Lib.hid hc
                clear hc HF hw e95 e0 e92 e38 e96 e60 e42
                go_enter Tryz.func20, Tryz.ntmps20
                go_wp2_with fail
                refine C.out.mono ?_
                rintro e w1 ⟨rfl, b1⟩
                go_wp2
                go_ret2
                exact ⟨by rw [HR.out]; rfl, b1⟩
              · by_cases e33 : s[0] = 33
                · have hc := mark_tk s w hw.2.1
                  obtain ⟨t, ht⟩ := markTk_mark s.data.toList
                  have HR := Lib.hid (show firstTk s.data.toList = (.mark t, (markTk s.data.toList).2) from by rw [HF.out, e33]; exact Prod.ext ht rfl)
                  unfold markV at hc
                  rw [ht] at hc
                  simp only at hc
                  generalize (markTk s.data.toList).2 = n at *
                  have f0 : ((s[0].toNat : Int) == 0) = false := by rw [e33]; decide
                  have f92 : ((s[0].toNat : Int) == 92) = false := by rw [e33]; decide
                  have f38 : ((s[0].toNat : Int) == 38) = false := by rw [e33]; decide
                  have f96 : ((s[0].toNat : Int) == 96) = false := by rw [e33]; decide
                  have f60 : ((s[0].toNat : Int) == 60) = false := by rw [e33]; decide
                  have f42 : ((s[0].toNat : Int) == 42) = false := by rw [e33]; decide
                  have f95 : ((s[0].toNat : Int) == 95) = false := by rw [e33]; decide
                  have f33 : ((s[0].toNat : Int) == 33) = true := by rw [e33]; decide
                  have C := Lib.hid hc
                  clear hc HF hw ht e33 e0 e92 e38 e96 e60 e42 e95
                  go_enter Tryz.func20, Tryz.ntmps20
                  go_wp2_with fail
                  refine C.out.mono ?_
                  rintro e w1 ⟨rfl, b1⟩
                  go_wp2
                  go_ret2
                  exact ⟨by rw [HR.out]; rfl, b1⟩
                · by_cases e91 : s[0] = 91
                  · have hc := mark_tk s w hw.2.1
                    obtain ⟨t, ht⟩ := markTk_mark s.data.toList
                    have HR := Lib.hid (show firstTk s.data.toList = (.mark t, (markTk s.data.toList).2) from by rw [HF.out, e91]; exact Prod.ext ht rfl)
                    unfold markV at hc
                    rw [ht] at hc
                    simp only at hc
                    generalize (markTk s.data.toList).2 = n at *
                    have f0 : ((s[0].toNat : Int) == 0) = false := by rw [e91]; decide
                    have f92 : ((s[0].toNat : Int) == 92) = false := by rw [e91]; decide
                    have f38 : ((s[0].toNat : Int) == 38) = false := by rw [e91]; decide
                    have f96 : ((s[0].toNat : Int) == 96) = false := by rw [e91]; decide
                    have f60 : ((s[0].toNat : Int) == 60) = false := by rw [e91]; decide
                    have f42 : ((s[0].toNat : Int) == 42) = false := by rw [e91]; decide
                    have f95 : ((s[0].toNat : Int) == 95) = false := by rw [e91]; decide
                    have f33 : ((s[0].toNat : Int) == 33) = false := by rw [e91]; decide
                    have f91 : ((s[0].toNat : Int) == 91) = true := by rw [e91]; decide
                    have C := Lib.hid hc
                    clear hc HF hw ht e91 e0 e92 e38 e96 e60 e42 e95 e33
                    go_enter Tryz.func20, Tryz.ntmps20
                    go_wp2_with fail
                    refine C.out.mono ?_
                    rintro e w1 ⟨rfl, b1⟩
                    go_wp2
                    go_ret2
                    exact ⟨by rw [HR.out]; rfl, b1⟩
                  · by_cases e93 : s[0] = 93
                    · have hc := mark_tk s w hw.2.1
                      obtain ⟨t, ht⟩ := markTk_mark s.data.toList
                      have HR := Lib.hid (show firstTk s.data.toList = (.mark t, (markTk s.data.toList).2) from by rw [HF.out, e93]; exact Prod.ext ht rfl)
                      unfold markV at hc
                      rw [ht] at hc
                      simp only at hc
                      generalize (markTk s.data.toList).2 = n at *
                      have f0 : ((s[0].toNat : Int) == 0) = false := by rw [e93]; decide
                      have f92 : ((s[0].toNat : Int) == 92) = false := by rw [e93]; decide
                      have f38 : ((s[0].toNat : Int) == 38) = false := by rw [e93]; decide
                      have f96 : ((s[0].toNat : Int) == 96) = false := by rw [e93]; decide
                      have f60 : ((s[0].toNat : Int) == 60) = false := by rw [e93]; decide
                      have f42 : ((s[0].toNat : Int) == 42) = false := by rw [e93]; decide
                      have f95 : ((s[0].toNat : Int) == 95) = false := by rw [e93]; decide
                      have f33 : ((s[0].toNat : Int) == 33) = false := by rw [e93]; decide
                      have f91 : ((s[0].toNat : Int) == 91) = false := by rw [e93]; decide
                      have f93 : ((s[0].toNat : Int) == 93) = true := by rw [e93]; decide
                      have C := Lib.hid hc
                      clear hc HF hw ht e93 e0 e92 e38 e96 e60 e42 e95 e33 e91
                      go_enter Tryz.func20, Tryz.ntmps20
                      go_wp2_with fail
                      refine C.out.mono ?_
                      rintro e w1 ⟨rfl, b1⟩
                      go_wp2
                      go_ret2
                      exact ⟨by rw [HR.out]; rfl, b1⟩
                    · by_cases e32 : s[0] = 32
                      · have hc := lineEnd_any s w (by omega)
                        obtain ⟨t, ht⟩ := lineTk_brk s.data.toList
                        have HR := Lib.hid (show firstTk s.data.toList = (.brk t, (lineTk s.data.toList).2) from by rw [HF.out, e32]; exact Prod.ext ht rfl)
                        unfold brkV at hc
                        rw [ht, show (Tk.brk t == Tk.brk true) = t from by cases t <;> rfl] at hc
                        generalize (lineTk s.data.toList).2 = n at *
                        have f0 : ((s[0].toNat : Int) == 0) = false := by rw [e32]; decide
                        have f92 : ((s[0].toNat : Int) == 92) = false := by rw [e32]; decide
                        have f38 : ((s[0].toNat : Int) == 38) = false := by rw [e32]; decide
                        have f96 : ((s[0].toNat : Int) == 96) = false := by rw [e32]; decide
                        have f60 : ((s[0].toNat : Int) == 60) = false := by rw [e32]; decide
                        have f42 : ((s[0].toNat : Int) == 42) = false := by rw [e32]; decide
                        have f95 : ((s[0].toNat : Int) == 95) = false := by rw [e32]; decide
                        have f33 : ((s[0].toNat : Int) == 33) = false := by rw [e32]; decide
                        have f91 : ((s[0].toNat : Int) == 91) = false := by rw [e32]; decide
                        have f93 : ((s[0].toNat : Int) == 93) = false := by rw [e32]; decide
                        have f32 : ((s[0].toNat : Int) == 32) = true := by rw [e32]; decide
                        have C := Lib.hid hc
                        clear hc HF hw ht e32 e0 e92 e38 e96 e60 e42 e95 e33 e91 e93
                        go_enter Tryz.func20, Tryz.ntmps20
                        go_wp2_with fail
                        refine C.out.mono ?_
                        rintro e w1 ⟨rfl, b1⟩
                        go_wp2
                        go_ret2
                        exact ⟨by rw [HR.out]; rfl, b1⟩
                      · by_cases e10 : s[0] = 10
                        · have hc := lineEnd_any s w (by omega)
                          obtain ⟨t, ht⟩ := lineTk_brk s.data.toList
                          have HR := Lib.hid (show firstTk s.data.toList = (.brk t, (lineTk s.data.toList).2) from by rw [HF.out, e10]; exact Prod.ext ht rfl)
                          unfold brkV at hc
                          rw [ht, show (Tk.brk t == Tk.brk true) = t from by cases t <;> rfl] at hc
                          generalize (lineTk s.data.toList).2 = n at *
                          have f0 : ((s[0].toNat : Int) == 0) = false := by rw [e10]; decide
                          have f92 : ((s[0].toNat : Int) == 92) = false := by rw [e10]; decide
                          have f38 : ((s[0].toNat : Int) == 38) = false := by rw [e10]; decide
                          have f96 : ((s[0].toNat : Int) == 96) = false := by rw [e10]; decide
                          have f60 : ((s[0].toNat : Int) == 60) = false := by rw [e10]; decide
                          have f42 : ((s[0].toNat : Int) == 42) = false := by rw [e10]; decide
                          have f95 : ((s[0].toNat : Int) == 95) = false := by rw [e10]; decide
                          have f33 : ((s[0].toNat : Int) == 33) = false := by rw [e10]; decide
                          have f91 : ((s[0].toNat : Int) == 91) = false := by rw [e10]; decide
                          have f93 : ((s[0].toNat : Int) == 93) = false := by rw [e10]; decide
                          have f32 : ((s[0].toNat : Int) == 32) = false := by rw [e10]; decide
                          have f10 : ((s[0].toNat : Int) == 10) = true := by rw [e10]; decide
                          have C := Lib.hid hc
                          clear hc HF hw ht e10 e0 e92 e38 e96 e60 e42 e95 e33 e91 e93 e32
                          go_enter Tryz.func20, Tryz.ntmps20
                          go_wp2_with fail
                          refine C.out.mono ?_
                          rintro e w1 ⟨rfl, b1⟩
                          go_wp2
                          go_ret2
                          exact ⟨by rw [HR.out]; rfl, b1⟩
                        · have HR := Lib.hid (show firstTk s.data.toList = (.no, 0) from by rw [HF.out]; simp [e0, e92, e38, e96, e60, e42, e95, e33, e91, e93, e32, e10])
                          have f0 : ((s[0].toNat : Int) == 0) = false := by
                            have := eq_byte s[0] 0
                            rw [show ((0 : UInt8).toNat : Int) = 0 from rfl] at this
                            rw [this]; simpa using e0
                          have f92 : ((s[0].toNat : Int) == 92) = false := by
                            have := eq_byte s[0] 92
                            rw [show ((92 : UInt8).toNat : Int) = 92 from rfl] at this
                            rw [this]; simpa using e92
                          have f38 : ((s[0].toNat : Int) == 38) = false := by
                            have := eq_byte s[0] 38
                            rw [show ((38 : UInt8).toNat : Int) = 38 from rfl] at this
                            rw [this]; simpa using e38
                          have f96 : ((s[0].toNat : Int) == 96) = false := by
                            have := eq_byte s[0] 96
                            rw [show ((96 : UInt8).toNat : Int) = 96 from rfl] at this
                            rw [this]; simpa using e96
                          have f60 : ((s[0].toNat : Int) == 60) = false := by
                            have := eq_byte s[0] 60
                            rw [show ((60 : UInt8).toNat : Int) = 60 from rfl] at this
                            rw [this]; simpa using e60
                          have f42 : ((s[0].toNat : Int) == 42) = false := by
                            have := eq_byte s[0] 42
                            rw [show ((42 : UInt8).toNat : Int) = 42 from rfl] at this
                            rw [this]; simpa using e42
                          have f95 : ((s[0].toNat : Int) == 95) = false := by
                            have := eq_byte s[0] 95
                            rw [show ((95 : UInt8).toNat : Int) = 95 from rfl] at this
                            rw [this]; simpa using e95
                          have f33 : ((s[0].toNat : Int) == 33) = false := by
                            have := eq_byte s[0] 33
                            rw [show ((33 : UInt8).toNat : Int) = 33 from rfl] at this
                            rw [this]; simpa using e33
                          have f91 : ((s[0].toNat : Int) == 91) = false := by
                            have := eq_byte s[0] 91
                            rw [show ((91 : UInt8).toNat : Int) = 91 from rfl] at this
                            rw [this]; simpa using e91
                          have f93 : ((s[0].toNat : Int) == 93) = false := by
                            have := eq_byte s[0] 93
                            rw [show ((93 : UInt8).toNat : Int) = 93 from rfl] at this
                            rw [this]; simpa using e93
                          have f32 : ((s[0].toNat : Int) == 32) = false := by
                            have := eq_byte s[0] 32
                            rw [show ((32 : UInt8).toNat : Int) = 32 from rfl] at this
                            rw [this]; simpa using e32
                          have f10 : ((s[0].toNat : Int) == 10) = false := by
                            have := eq_byte s[0] 10
                            rw [show ((10 : UInt8).toNat : Int) = 10 from rfl] at this
                            rw [this]; simpa using e10
                          clear HF hw e0 e92 e38 e96 e60 e42 e95 e33 e91 e93 e32 e10
                          go_enter Tryz.func20, Tryz.ntmps20
                          go_wp2
                          go_ret2
                          exact ⟨by rw [HR.out]; rfl, Below.refl _ _⟩


end Go.Proofs.YtggdpmaomhmobaaGreatDoor

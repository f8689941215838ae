/- The document's Compile: compP. -/
import Derived.Test.YtpphkaolonjjdaaDoorCmtJ
import Derived.Test.YtpphkaolonjjdaaDoorCmjJ
import Derived.Test.YtpphkaolonjjdaaDoorCmdJ
import Derived.Test.YtpphkaolonjjdaaDoorCmhJ
import Derived.Test.YtpphkaolonjjdaaDoorCmoJ
namespace Go.Proofs.YtpphkaolonjjdaaDoor.Cmk
open Go Go.RowKit Go.Proofs.YtpphkaolonjjdaaDoor.Spl Go.Proofs.YtpphkaolonjjdaaDoor.Nodm Go.Proofs.YtpphkaolonjjdaaDoor.Nz Go.Proofs.YtpphkaolonjjdaaDoor.Cpl Go.Proofs.YtpphkaolonjjdaaDoor.Cin Go.Proofs.YtpphkaolonjjdaaDoor.Cops Go.Proofs.YtpphkaolonjjdaaDoor.Cmc Go.Proofs.YtpphkaolonjjdaaDoor.Cmm Go.Proofs.YtpphkaolonjjdaaDoor.Cnm Go.Proofs.YtpphkaolonjjdaaDoor.Cpu Go.Proofs.YtpphkaolonjjdaaDoor.Cmr Go.Proofs.YtpphkaolonjjdaaDoor.Cmn
open Go.Proofs.YtpphkaolonjjdaaDoor.Pure (bs)

theorem rows_ok {B : List (List Opp)} (h : opsP B ≤ 400000) : ∀ r ∈ B, r.length ≤ 1000000 := fun r hr => by
  have := row_le hr
  omega
mutual
theorem node_is (S : Nat → Prop) (w0 : World) (h cb : Nat) : ∀ (x : Nz), frmZ x = true → ∀ b, KidR S w0 h cb b x
  | .mk k s l, hf, b => by
    obtain ⟨hfb, _, hfl⟩ := frm_mk hf
    have hi := nodes_is S w0 h cb l hfl
    intro Y B v W ho hB hb hn hst
    obtain ⟨A, c, rfl, hns⟩ := hn.inv
    rw [siz] at ho hB
    have ho' : opsP B + sizs l < 400000 := by omega
    have hB' : B.length + sizs l ≤ 400000 := by omega
    rw [nodeP]
    unfold formB at hfb
    by_cases h1 : k = 1
    · subst h1
      rw [if_pos rfl]
      exact Cmt.node_text S w0 h cb b _ Y B s A c W hst hb (rows_ok (by omega))
    · rw [if_neg h1] at hfb ⊢
      by_cases h2 : k = 2
      · subst h2
        rw [if_neg (by intro h; exact absurd h.1 (by decide))]
        exact Cmg.node_ref S w0 h cb b Y B s l A c W (fun x hx => hi x hx b) hst hns hb ho' hB'
      · by_cases h3 : k = 3
        · subst h3
          rw [if_neg (by intro h; exact absurd h.1 (by decide))]
          exact Cms.node_sub S w0 h cb b Y B s l A c W (fun x hx => hi x hx b) hst hns hb ho' hB'
        · rw [if_neg h2, if_neg h3] at hfb
          rcases of_decide_eq_true hfb with h4 | h4
          · subst h4
            by_cases hz : lazyB s = true
            · rw [if_pos ⟨rfl, hz⟩]
              exact Cmh.node_lazy S w0 h cb b Y B s l A c W (fun f x hx => hi x hx f) hst hns hb ho' hB' hz
            · rw [if_neg (fun h => hz h.2)]
              exact Cmd.node_call S w0 h cb b Y B s l A c W (fun x hx => hi x hx b) hst hns hb ho' hB' (by simpa using hz)
          · subst h4
            rw [if_neg (by intro h; exact absurd h.1 (by decide))]
            exact Cmj.node_cat S w0 h cb b Y B s l A c W (fun x hx => hi x hx b) hst hns hb ho' hB'
theorem nodes_is (S : Nat → Prop) (w0 : World) (h cb : Nat) : ∀ (l : List Nz), frmsZ l = true → ∀ x ∈ l, ∀ b, KidR S w0 h cb b x
  | [], _, x, hx => by cases hx
  | n :: r, hf, x, hx => by
    obtain ⟨h1, h2⟩ := frms_cons hf
    rcases List.mem_cons.1 hx with e | hx
    · rw [e]; exact node_is S w0 h cb n h1
    · exact nodes_is S w0 h cb r h2 x hx
end

/-- Compile -/
theorem refCompile_is (S : Nat → Prop) (v : Value) (x : Nz) (w : World) (h : NzIn S w v x) (hf : frmZ x = true) (hx : siz x ≤ 400000) :
    Calls Tryd.prog 16 #[v] w fun e W' => ∃ vB G, e = .returned (.agg #[vB]) ∧ Jcd.RowsG w.heap.size W' vB G ∧ blk G = compP x ∧ Below w.heap.size w W' :=
  Cmo.refCompile_of (fun S w0 h cb x hf => node_is S w0 h cb x hf 0) S v x w h hf hx

end Go.Proofs.YtpphkaolonjjdaaDoor.Cmk

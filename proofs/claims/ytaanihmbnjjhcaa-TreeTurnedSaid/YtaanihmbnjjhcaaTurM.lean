/-
What is proved here: the law TreeTurned, by a contract.
-/
import Derived.Test.YtaanihmbnjjhcaaTu1M
import Derived.Test.YtaanihmbnjjhcaaTu2M
import Derived.Test.YtaanihmbnjjhcaaTu3M
import Derived.Test.YtaanihmbnjjhcaaTu4M
import Derived.Test.YtaanihmbnjjhcaaTu5M
import Derived.Test.YtaanihmbnjjhcaaTu6M
import Derived.Test.YtaanihmbnjjhcaaTu7M
import Derived.Test.YtaanihmbnjjhcaaTu8M
import Derived.Test.YtaanihmbnjjhcaaTu9M
namespace Go.Proofs.Ytaanihmbnjjhcaa
open Go.Pth Go.Tre Go.RowKit Go.Word Go.Shelf
theorem turned_law (NA FA : Option Addr) (nc fc : Nat) (ns : List Nd) (fs : List Fl) (what at_ : Int) (w : World) (hN : NodesAt w NA ns) (hF : FilesAt w FA fs)
    (h1 : ns.length ≤ 140737488355328) (h2 : fs.length ≤ 140737488355328) (h3 : ∀ x ∈ ns, x.path.length ≤ 140737488355328) (h4 : ∀ x ∈ fs, x.data.length ≤ 140737488355328) :
    Calls Try.prog 6 #[.agg #[.slice NA ns.length nc, .slice FA fs.length fc], .int .i64 what, .int .i64 at_] w fun e w' => e = .returned (.bool true) ∧ Below w.heap.size w w' := by
  have no : ∀ k : Int, what ≠ k → (what == k) = false := fun k h => by simpa using h
  by_cases w0 : what = 0
  · have b0 : (what == 0) = true := by simpa using w0
    by_cases f : fileAt ns at_ = -1
    · exact turned_mode NA FA nc fc ns fs what at_ w hN hF b0 f h1 h2 h3 h4
    · exact turned_fmode NA FA nc fc ns fs what at_ w hN hF b0 f h1 h2 h3 h4
  · have b0 := no 0 w0
    by_cases w1 : what = 1
    · have b1 : (what == 1) = true := by simpa using w1
      have b2 : (what == 2) = false := no 2 (by omega)
      by_cases f : fileAt ns at_ = -1
      · exact turned_path1 NA FA nc fc ns fs what at_ w hN hF b0 b1 b2 f h1 h2 h3 h4
      · exact turned_app NA FA nc fc ns fs what at_ w hN hF b0 b1 f h1 h2 h3 h4
    · have b1 := no 1 w1
      by_cases w2 : what = 2
      · have b2 : (what == 2) = true := by simpa using w2
        by_cases f : fileAt ns at_ = -1
        · exact turned_path2 NA FA nc fc ns fs what at_ w hN hF b0 b1 b2 f h1 h2 h3 h4
        · by_cases hd : dataAt ns fs at_ = []
          · exact turned_path5 NA FA nc fc ns fs what at_ w hN hF b0 b1 b2 f hd h1 h2 h3 h4
          · exact turned_byte NA FA nc fc ns fs what at_ w hN hF b0 b1 b2 f (List.length_pos_iff.2 hd) h1 h2 h3 h4
      · have b2 := no 2 w2
        by_cases f : fileAt ns at_ = -1
        · exact turned_path3 NA FA nc fc ns fs what at_ w hN hF b0 b1 b2 f h1 h2 h3 h4
        · exact turned_path4 NA FA nc fc ns fs what at_ w hN hF b0 b1 b2 f h1 h2 h3 h4
end Go.Proofs.Ytaanihmbnjjhcaa
